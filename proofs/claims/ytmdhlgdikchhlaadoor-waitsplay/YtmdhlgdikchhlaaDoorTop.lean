/- What each function of package waits answers, and what it leaves. -/
import Derived.Test.YtmdhlgdikchhlaaDoorAdd
namespace Go.Proofs.YtmdhlgdikchhlaaDoor
open Go Go.RowKit
set_option maxRecDepth 100000
set_option linter.unusedVariables false
set_option linter.unusedSimpArgs false
/-- a queue of those who wait -/
def Qu (B : Nat) (w : World) (p : Nat) (xs : List (Int × Int)) : Prop := ∃ bs, Que B w p bs xs
theorem Qu.below {B : Nat} {w w' : World} {p : Nat} {xs : List (Int × Int)} (h : Qu B w p xs) (hb : Below w.heap.size w w') : Qu B w' p xs := by
  obtain ⟨bs, h⟩ := h
  exact ⟨bs, h.below hb⟩
theorem Qu.len {B : Nat} {w : World} {p : Nat} {xs : List (Int × Int)} (h : Qu B w p xs) : xs.length ≤ 1000 := by
  obtain ⟨bs, h⟩ := h
  exact h.len
theorem qnew_any (w : World) :
    Calls Tryd.prog 5 #[] w fun e w' => e = .returned (.pointer (some ⟨w.heap.size + 1, 0, none⟩)) ∧ Qu w.heap.size w' (w.heap.size + 1) [] ∧ Below w.heap.size w w' := by
  have h1 := alloc_below w (.cells #[.int .i64 0, .int .i64 0, .pointer none] 54)
  have h2 := alloc_below (w.alloc (.cells #[.int .i64 0, .int .i64 0, .pointer none] 54)) (.cells #[.pointer (some ⟨w.heap.size, 0, none⟩)] 56)
  have hs := alloc_size w (.cells #[.int .i64 0, .int .i64 0, .pointer none] 54)
  have a1 := alloc_at w (.cells #[.int .i64 0, .int .i64 0, .pointer none] 54)
  have a2 := alloc_at (w.alloc (.cells #[.int .i64 0, .int .i64 0, .pointer none] 54)) (.cells #[.pointer (some ⟨w.heap.size, 0, none⟩)] 56)
  rw [hs] at a2
  have b1 := (h2.block w.heap.size (by rw [hs]; omega)).trans a1
  have HE : Hid (Qu w.heap.size ((w.alloc (.cells #[.int .i64 0, .int .i64 0, .pointer none] 54)).alloc (.cells #[.pointer (some ⟨w.heap.size, 0, none⟩)] 56)) (w.heap.size + 1) [] ∧ Below w.heap.size w ((w.alloc (.cells #[.int .i64 0, .int .i64 0, .pointer none] 54)).alloc (.cells #[.pointer (some ⟨w.heap.size, 0, none⟩)] 56))) := by
    refine ⟨⟨[w.heap.size], a2, ⟨rfl, by simp, fun i b y hb hy => ?_⟩, by omega, by simp, by simp⟩, h1.trans (h2.mono h1.size)⟩
    rcases i with _ | i
    · simp only [List.getElem?_cons_zero, Option.some.injEq] at hb hy
      subst hb hy
      exact b1
    · simp at hb
  clear h1 h2 a1 a2 b1 hs
  go_enter Tryd.func5, Tryd.ntmps5
  go_wp2
  go_ret
  exact ⟨rfl, HE.out⟩
set_option maxHeartbeats 1000000 in
theorem qput_any {B : Nat} {w : World} {p : Nat} {xs : List (Int × Int)} (h : Qu B w p xs) (hl : xs.length < 1000) (who r : Int) (hB : B ≤ w.heap.size) :
    Calls Tryd.prog 11 #[.pointer (some ⟨p, 0, none⟩), .int .i64 who, .int .i64 r] w fun e w' => e = .returned (.int .i64 (putE xs who r)) ∧ Qu B w' p (putL xs who r) ∧ Ln B w w' := by
  obtain ⟨bs, h⟩ := h
  have HQ : Hid (Que B w p bs xs) := h
  have HT := there_yes h
  have HL0 : Hid (Ln B w w) := Ln.refl _ _
  by_cases h0 : who < 0
  · have e : putE xs who r = 1 := by simp [putE, badA, h0]
    have e2 : putL xs who r = xs := by simp [putL, badA, h0]
    rw [e, e2]
    clear e e2 h
    go_enter Tryd.func11, Tryd.ntmps11
    go_wp2_with (first | (go_at_call 25; refine HT.mono ?_; rintro e wx ⟨rfl, rfl⟩))
    go_ret
    exact ⟨rfl, ⟨bs, HQ.out⟩, HL0.out⟩
  · have HR := isRank_any (w := w) r
    by_cases hr : badR r
    · have e : putE xs who r = 1 := by unfold badR at hr; simp [putE, badA, hr]
      have e2 : putL xs who r = xs := by unfold badR at hr; simp [putL, badA, hr]
      have e3 : decide (¬ badR r) = false := by simp [hr]
      rw [e, e2]
      rw [e3] at HR
      clear e e2 e3 h hr
      go_enter Tryd.func11, Tryd.ntmps11
      go_wp2_with (first | (go_at_call 25; refine HT.mono ?_; rintro e wx ⟨rfl, rfl⟩) | (go_at_call 23; refine HR.mono ?_; rintro e wx ⟨rfl, rfl⟩))
      go_ret
      exact ⟨rfl, ⟨bs, HQ.out⟩, HL0.out⟩
    · have hbad : ¬ badA who r := by unfold badR at hr; unfold badA; omega
      have e3 : decide (¬ badR r) = true := by simp [hr]
      rw [e3] at HR
      have HA := aheadOf_any h who
      have hle := wi_le xs who
      have d2 := (h.cells (i := wi xs who) (by omega)).2.2
      have hbl := (h.lt (i := wi xs who) (by omega)).1
      by_cases hh : has xs who = true
      · have e : putE xs who r = 7 := by simp [putE, hbad, hh]
        have e2 : putL xs who r = xs := by simp [putL, hbad, hh]
        rw [e, e2]
        rw [nxt_some (by have := h.blen; have := has_lt hh; omega)] at d2
        clear e e2 e3 h hr hh hbad hle
        generalize bat bs (wi xs who + 1) = b2 at *
        generalize bat bs (wi xs who) = b1 at *
        go_enter Tryd.func11, Tryd.ntmps11
        go_wp2_with (first
          | (go_at_call 25; refine HT.mono ?_; rintro e wx ⟨rfl, rfl⟩)
          | (go_at_call 23; refine HR.mono ?_; rintro e wx ⟨rfl, rfl⟩)
          | (go_at_call 26; refine HA.mono ?_; rintro e w2 ⟨rfl, hb2⟩; have k2 := (hb2.cell (p := ⟨b1, 2, none⟩) hbl).trans d2; have HB2 : Hid (Below _ _ w2) := hb2; clear hb2))
        go_ret
        exact ⟨rfl, ⟨bs, HQ.out.below HB2.out⟩, Ln.of HB2.out hB⟩
      · have hh' : has xs who = false := by simpa using hh
        have e : putE xs who r = 0 := by simp [putE, hbad, hh']
        have e2 : putL xs who r = ins xs (who, r) := by simp [putL, hbad, hh']
        rw [e, e2]
        rw [nxt_none (by have := h.blen; have := has_ge hh'; omega)] at d2
        have HAD : Hid (∀ w', Que B w' p bs xs → B ≤ w'.heap.size → Calls Tryd.prog 24 #[.pointer (some ⟨p, 0, none⟩), .agg #[.int .i64 who, .int .i64 r]] w' fun e w'' => e = .returned (.tuple #[]) ∧ (∃ bs', Que B w'' p bs' (ins xs (who, r))) ∧ Ln B w' w'') := fun w' hq hB' => qadd_any hq hl who r hB'
        clear e e2 e3 h hr hh hh' hbad hle
        generalize ins xs (who, r) = zs at *
        generalize bat bs (wi xs who) = b1 at *
        go_enter Tryd.func11, Tryd.ntmps11
        go_wp2_with (first
          | (go_at_call 25; refine HT.mono ?_; rintro e wx ⟨rfl, rfl⟩)
          | (go_at_call 23; refine HR.mono ?_; rintro e wx ⟨rfl, rfl⟩)
          | (go_at_call 26; refine HA.mono ?_; rintro e w2 ⟨rfl, hb2⟩; have k2 := (hb2.cell (p := ⟨b1, 2, none⟩) hbl).trans d2; have HB2 : Hid (Below w.heap.size w w2) := hb2; clear hb2)
          | (go_at_call 24; refine (HAD.out _ (HQ.out.below HB2.out) (Nat.le_trans hB HB2.out.size)).mono ?_; rintro e w3 ⟨rfl, q3, l3⟩; have H3 : Hid (Qu B w3 p zs ∧ Ln B w w3) := ⟨q3, (Ln.of HB2.out hB).trans l3⟩; clear q3 l3))
        go_ret
        exact ⟨rfl, H3.out⟩
theorem qput_nil {w : World} (who r : Int) :
    Calls Tryd.prog 11 #[.pointer none, .int .i64 who, .int .i64 r] w fun e w' => e = .returned (.int .i64 2) ∧ w = w' := by
  go_enter Tryd.func11, Tryd.ntmps11
  go_wp2_with (first | (go_at_call 25; refine there_nil.mono ?_; rintro e wx ⟨rfl, rfl⟩))
  go_ret
  exact ⟨rfl, rfl⟩
set_option maxHeartbeats 1000000 in
theorem qremove_any {B : Nat} {w : World} {p : Nat} {xs : List (Int × Int)} (h : Qu B w p xs) (who : Int) (hB : B ≤ w.heap.size) :
    Calls Tryd.prog 7 #[.pointer (some ⟨p, 0, none⟩), .int .i64 who] w fun e w' => e = .returned (.int .i64 (remE xs who)) ∧ Qu B w' p (gone xs who) ∧ Ln B w w' := by
  obtain ⟨bs, h⟩ := h
  have HQ : Hid (Que B w p bs xs) := h
  by_cases hh : has xs who = true
  · have e : remE xs who = 0 := by simp [remE, hh]
    have HF := find_yes h hh
    have HD : Hid (∀ w', Que B w' p bs xs → Calls Tryd.prog 21 #[.pointer (some ⟨bat bs (wi xs who), 0, none⟩)] w' fun e w'' => e = .returned (.tuple #[]) ∧ (∃ bs', Que B w'' p bs' (gone xs who)) ∧ Ln B w' w'') := fun w' hq => lDrop_any hq (has_lt hh)
    rw [e]
    clear e h hh
    generalize gone xs who = zs at *
    generalize bat bs (wi xs who) = b1 at *
    go_enter Tryd.func7, Tryd.ntmps7
    go_wp2_with (first
      | (go_at_call 20; refine HF.mono ?_; rintro e w2 ⟨rfl, hb2⟩; have HB2 : Hid (Below w.heap.size w w2) := hb2; clear hb2)
      | (go_at_call 21; refine (HD.out _ (HQ.out.below HB2.out)).mono ?_; rintro e w3 ⟨rfl, q3, l3⟩; have H3 : Hid (Qu B w3 p zs ∧ Ln B w w3) := ⟨q3, (Ln.of HB2.out hB).trans l3⟩; clear q3 l3))
    go_ret
    exact ⟨rfl, H3.out⟩
  · have hh' : has xs who = false := by simpa using hh
    have e : remE xs who = 1 := by simp [remE, hh']
    have HF := find_no h hh'
    rw [e, gone_no hh']
    clear e h hh hh'
    go_enter Tryd.func7, Tryd.ntmps7
    go_wp2_with (first
      | (go_at_call 20; refine HF.mono ?_; rintro e w2 ⟨rfl, hb2⟩; have HB2 : Hid (Below w.heap.size w w2) := hb2; clear hb2))
    go_ret
    exact ⟨rfl, ⟨bs, HQ.out.below HB2.out⟩, Ln.of HB2.out hB⟩
set_option maxHeartbeats 1000000 in
theorem qchange_any {B : Nat} {w : World} {p : Nat} {xs : List (Int × Int)} (h : Qu B w p xs) (who r : Int) (hB : B ≤ w.heap.size) :
    Calls Tryd.prog 9 #[.pointer (some ⟨p, 0, none⟩), .int .i64 who, .int .i64 r] w fun e w' => e = .returned (.int .i64 (chE xs who r)) ∧ Qu B w' p (chL xs who r) ∧ Ln B w w' := by
  obtain ⟨bs, h⟩ := h
  have HQ : Hid (Que B w p bs xs) := h
  by_cases hh : has xs who = true
  · have HF := find_yes h hh
    have hlt := has_lt hh
    have hlen := h.len
    have HR : Hid (∀ w' : World, Calls Tryd.prog 23 #[.int .i64 r] w' fun e w'' => e = .returned (.bool (decide (¬ badR r))) ∧ w' = w'') := fun w' => isRank_any r
    by_cases hr : badR r
    · have e : chE xs who r = 1 := by simp [chE, hh, hr]
      have e2 : chL xs who r = xs := by simp [chL, hh, hr]
      have e3 : decide (¬ badR r) = false := by simp [hr]
      rw [e3] at HR
      rw [e, e2]
      clear e e2 e3 h hh hr hlt
      generalize bat bs (wi xs who) = b1 at *
      go_enter Tryd.func9, Tryd.ntmps9
      go_wp2_with (first
        | (go_at_call 20; refine HF.mono ?_; rintro e w2 ⟨rfl, hb2⟩; have HB2 : Hid (Below w.heap.size w w2) := hb2; clear hb2)
        | (go_at_call 23; refine (HR.out _).mono ?_; rintro e wx ⟨rfl, rfl⟩))
      go_ret
      exact ⟨rfl, ⟨bs, HQ.out.below HB2.out⟩, Ln.of HB2.out hB⟩
    · have e : chE xs who r = 0 := by simp [chE, hh, hr]
      have e3 : decide (¬ badR r) = true := by simp [hr]
      rw [e3] at HR
      rw [e]
      have d2 := (h.cells (i := wi xs who) (by omega)).2.2
      have hbl := (h.lt (i := wi xs who) (by omega)).1
      rw [nxt_some (by have := h.blen; omega)] at d2
      have r2 := (h.cells (i := wi xs who + 1) (by omega)).2.1
      have hbl2 := (h.lt (i := wi xs who + 1) (by omega)).1
      rw [yat_succ] at r2
      have hrk : (xs.getD (wi xs who) (0, 0)).2 = rkOf xs who := rfl
      rw [hrk] at r2
      by_cases hs : rkOf xs who = r
      · have e2 : chL xs who r = xs := by simp [chL, hh, hr, hs]
        rw [e2]
        rw [hs] at r2
        clear e e2 e3 h hh hr hlt hrk hs
        generalize bat bs (wi xs who + 1) = b2 at *
        generalize bat bs (wi xs who) = b1 at *
        go_enter Tryd.func9, Tryd.ntmps9
        go_wp2_with (first
          | (go_at_call 20; refine HF.mono ?_; rintro e w2 ⟨rfl, hb2⟩; have k2 := (hb2.cell (p := ⟨b1, 2, none⟩) hbl).trans d2; have k3 := (hb2.cell (p := ⟨b2, 1, none⟩) hbl2).trans r2; have HB2 : Hid (Below w.heap.size w w2) := hb2; clear hb2)
          | (go_at_call 23; refine (HR.out _).mono ?_; rintro e wx ⟨rfl, rfl⟩))
        go_ret
        exact ⟨rfl, ⟨bs, HQ.out.below HB2.out⟩, Ln.of HB2.out hB⟩
      · have e2 : chL xs who r = ins (gone xs who) (who, r) := by simp [chL, hh, hr, hs]
        have hlg : (gone xs who).length < 1000 := by have := gone_len' hh; omega
        have HD : Hid (∀ w', Que B w' p bs xs → Calls Tryd.prog 21 #[.pointer (some ⟨bat bs (wi xs who), 0, none⟩)] w' fun e w'' => e = .returned (.tuple #[]) ∧ (∃ bs', Que B w'' p bs' (gone xs who)) ∧ Ln B w' w'') := fun w' hq => lDrop_any hq hlt
        have HAD : Hid (∀ w' bs, Que B w' p bs (gone xs who) → B ≤ w'.heap.size → Calls Tryd.prog 24 #[.pointer (some ⟨p, 0, none⟩), .agg #[.int .i64 who, .int .i64 r]] w' fun e w'' => e = .returned (.tuple #[]) ∧ (∃ bs', Que B w'' p bs' (ins (gone xs who) (who, r))) ∧ Ln B w' w'') := fun w' bs' hq hB' => qadd_any hq hlg who r hB'
        rw [e2]
        have hsb : (rkOf xs who == r) = false := by simpa using hs
        clear e e2 e3 h hh hr hlt hrk hlg
        generalize ins (gone xs who) (who, r) = zs at *
        generalize gone xs who = ys at *
        generalize rkOf xs who = r0 at *
        generalize bat bs (wi xs who + 1) = b2 at *
        generalize bat bs (wi xs who) = b1 at *
        go_enter Tryd.func9, Tryd.ntmps9
        go_wp2_with (first
          | (go_at_call 20; refine HF.mono ?_; rintro e w2 ⟨rfl, hb2⟩; have k2 := (hb2.cell (p := ⟨b1, 2, none⟩) hbl).trans d2; have k3 := (hb2.cell (p := ⟨b2, 1, none⟩) hbl2).trans r2; have HB2 : Hid (Below w.heap.size w w2) := hb2; clear hb2)
          | (go_at_call 23; refine (HR.out _).mono ?_; rintro e wx ⟨rfl, rfl⟩)
          | (go_at_call 21; refine (HD.out _ (HQ.out.below HB2.out)).mono ?_; rintro e w3 ⟨rfl, ⟨bs3, q3⟩, l3⟩; have Q3 : Hid (Que B w3 p bs3 ys) := q3; have L3 : Hid (Ln B w w3) := (Ln.of HB2.out hB).trans l3; clear q3 l3)
          | (go_at_call 24; refine (HAD.out _ _ Q3.out (Nat.le_trans hB L3.out.low.size)).mono ?_; rintro e w4 ⟨rfl, q4, l4⟩; have H4 : Hid (Qu B w4 p zs ∧ Ln B w w4) := ⟨q4, L3.out.trans l4⟩; clear q4 l4))
        go_ret
        exact ⟨rfl, H4.out⟩
  · have hh' : has xs who = false := by simpa using hh
    have e : chE xs who r = 1 := by simp [chE, hh']
    have e2 : chL xs who r = xs := by simp [chL, hh']
    have HF := find_no h hh'
    rw [e, e2]
    clear e e2 h hh hh'
    go_enter Tryd.func9, Tryd.ntmps9
    go_wp2_with (first
      | (go_at_call 20; refine HF.mono ?_; rintro e w2 ⟨rfl, hb2⟩; have HB2 : Hid (Below w.heap.size w w2) := hb2; clear hb2))
    go_ret
    exact ⟨rfl, ⟨bs, HQ.out.below HB2.out⟩, Ln.of HB2.out hB⟩
end Go.Proofs.YtmdhlgdikchhlaaDoor
