/- Answers by what they come to; the statements' own helpers: 'alive' answers true, 'set' makes lines of which these call and these are masked. -/
import Derived.Test.YtedheamenlnfkabTop
namespace Go.Proofs.Ytedheamenlnfkab
open Go Go.RowKit
set_option maxRecDepth 100000
set_option linter.unusedVariables false
theorem ra_is {w : World} {p c m c' : Nat} {r e0 : Int} (H : Tab w p c m) (he : lnE r = e0) (hc : raiseC c r = c') :
    Calls Try.prog 7 #[.pointer (some ⟨p, 0, none⟩), .int .i64 r] w fun e w' => e = .returned (.int .i64 e0) ∧ Tab w' p c' m ∧ Buts [p] w w' := by subst he hc; exact raise_any H r
theorem ma_is {w : World} {p c m m' : Nat} {r e0 : Int} {on : Bool} (H : Tab w p c m) (he : lnE r = e0) (hc : maskM m r on = m') :
    Calls Try.prog 11 #[.pointer (some ⟨p, 0, none⟩), .int .i64 r, .bool on] w fun e w' => e = .returned (.int .i64 e0) ∧ Tab w' p c m' ∧ Buts [p] w w' := by subst he hc; exact mask_any H r on
theorem nx_is {w : World} {p c m c' k : Nat} {e0 z : Int} (H : Tab w p c m) (hk : nextL c m = k) (he : nextE c m = e0) (hc : nextC c m = c') (hz : (k : Int) = z := by rfl) :
    Calls Try.prog 8 #[.pointer (some ⟨p, 0, none⟩)] w fun e w' => e = .returned (.tuple #[.int .i64 z, .int .i64 e0]) ∧ Tab w' p c' m ∧ Buts [p] w w' := by subst hk he hc hz; exact next_any H
/-- the line k is raised, masked, heard again -/
theorem raise_k {w : World} {p c m k : Nat} (H : Tab w p c m) (hk : k < 8) :
    Calls Try.prog 7 #[.pointer (some ⟨p, 0, none⟩), .int .i64 (k : Nat)] w fun e w' => e = .returned (.int .i64 0) ∧ Tab w' p (st c k) m ∧ Buts [p] w w' := ra_is H (lnE_nat hk) (raiseC_nat c hk)
theorem mask_k {w : World} {p c m k : Nat} (H : Tab w p c m) (hk : k < 8) :
    Calls Try.prog 11 #[.pointer (some ⟨p, 0, none⟩), .int .i64 (k : Nat), .bool true] w fun e w' => e = .returned (.int .i64 0) ∧ Tab w' p c (st m k) ∧ Buts [p] w w' := ma_is H (lnE_nat hk) (maskM_on m hk)
theorem hear_k {w : World} {p c m k : Nat} (H : Tab w p c m) (hk : k < 8) :
    Calls Try.prog 11 #[.pointer (some ⟨p, 0, none⟩), .int .i64 (k : Nat), .bool false] w fun e w' => e = .returned (.int .i64 0) ∧ Tab w' p c (cl m k) ∧ Buts [p] w w' := ma_is H (lnE_nat hk) (maskM_off m hk)
theorem next_k {w : World} {p c m k : Nat} (H : Tab w p c m) (h : lw (bt c m) = k) (hk : k < 8) :
    Calls Try.prog 8 #[.pointer (some ⟨p, 0, none⟩)] w fun e w' => e = .returned (.tuple #[.int .i64 (k : Nat), .int .i64 0]) ∧ Tab w' p (cl c k) m ∧ Buts [p] w w' := by
  subst h
  exact nx_is H (if_pos hk) (if_pos hk) (if_pos hk)
theorem next_e {w : World} {p c m : Nat} (H : Tab w p c m) (h : lw (bt c m) = 8) :
    Calls Try.prog 8 #[.pointer (some ⟨p, 0, none⟩)] w fun e w' => e = .returned (.tuple #[.int .i64 0, .int .i64 11]) ∧ Tab w' p c m ∧ Buts [p] w w' :=
  nx_is (k := 0) H (if_neg (by omega)) (if_neg (by omega)) (if_neg (by omega))
theorem ca_is {w : World} {p c m : Nat} {z : Int} (H : Tab w p c m) (hz : (c : Int) = z := by rfl) :
    Calls Try.prog 9 #[.pointer (some ⟨p, 0, none⟩)] w fun e w' => e = .returned (.int .u8 z) ∧ w' = w := by subst hz; exact calls_any H
theorem ms_is {w : World} {p c m : Nat} {z : Int} (H : Tab w p c m) (hz : (m : Int) = z := by rfl) :
    Calls Try.prog 12 #[.pointer (some ⟨p, 0, none⟩)] w fun e w' => e = .returned (.int .u8 z) ∧ w' = w := by subst hz; exact masks_any H
set_option maxHeartbeats 4000000 in
theorem alive_any (w : World) : Calls Try.prog 5 #[] w fun e w' => e = .returned (.bool true) ∧ Below w.heap.size w w' := by
  go_enter Try.func5, Try.ntmps5
  go_wp2_with (first
    | (go_at_call 6; refine new_any.mono ?_; rintro e w0 ⟨rfl, hr, hb⟩; have H0 : Hid (Tab w0 w.heap.size 0 0) := hr; have hB : Below w.heap.size w w0 := hb; clear hr hb)
    | (go_at_call 7; refine (ra_is H0.out (r := 5) (e0 := 0) (c' := 32) (by decide) (by decide)).mono ?_; rintro e w1 ⟨rfl, hr, hb⟩; have H1 : Hid (Tab w1 w.heap.size 32 0) := hr; replace hB := hB.trans (one_below hb (Nat.le_refl _) hB.size); clear hr hb H0)
    | (go_at_call 7; refine (ra_is H1.out (r := 2) (e0 := 0) (c' := 36) (by decide) (by decide)).mono ?_; rintro e w2 ⟨rfl, hr, hb⟩; have H2 : Hid (Tab w2 w.heap.size 36 0) := hr; replace hB := hB.trans (one_below hb (Nat.le_refl _) hB.size); clear hr hb H1)
    | (go_at_call 7; refine (ra_is H2.out (r := 2) (e0 := 0) (c' := 36) (by decide) (by decide)).mono ?_; rintro e w3 ⟨rfl, hr, hb⟩; have H3 : Hid (Tab w3 w.heap.size 36 0) := hr; replace hB := hB.trans (one_below hb (Nat.le_refl _) hB.size); clear hr hb H2)
    | (go_at_call 9; refine (ca_is H3.out).mono ?_; rintro e wx ⟨rfl, hwx⟩; obtain rfl := hwx.symm)
    | (go_at_call 7; refine (ra_is H3.out (r := 8) (e0 := 1) (c' := 36) (by decide) (by decide)).mono ?_; rintro e w4 ⟨rfl, hr, hb⟩; have H4 : Hid (Tab w4 w.heap.size 36 0) := hr; replace hB := hB.trans (one_below hb (Nat.le_refl _) hB.size); clear hr hb H3)
    | (go_at_call 11; refine (ma_is H4.out (r := -1) (on := true) (e0 := 1) (m' := 0) (by decide) (by decide)).mono ?_; rintro e w5 ⟨rfl, hr, hb⟩; have H5 : Hid (Tab w5 w.heap.size 36 0) := hr; replace hB := hB.trans (one_below hb (Nat.le_refl _) hB.size); clear hr hb H4)
    | (go_at_call 8; refine (nx_is H5.out (k := 2) (e0 := 0) (c' := 32) (by decide) (by decide) (by decide)).mono ?_; rintro e w6 ⟨rfl, hr, hb⟩; have H6 : Hid (Tab w6 w.heap.size 32 0) := hr; replace hB := hB.trans (one_below hb (Nat.le_refl _) hB.size); clear hr hb H5)
    | (go_at_call 8; refine (nx_is H6.out (k := 5) (e0 := 0) (c' := 0) (by decide) (by decide) (by decide)).mono ?_; rintro e w7 ⟨rfl, hr, hb⟩; have H7 : Hid (Tab w7 w.heap.size 0 0) := hr; replace hB := hB.trans (one_below hb (Nat.le_refl _) hB.size); clear hr hb H6)
    | (go_at_call 8; refine (nx_is H7.out (k := 0) (e0 := 11) (c' := 0) (by decide) (by decide) (by decide)).mono ?_; rintro e w8 ⟨rfl, hr, hb⟩; have H8 : Hid (Tab w8 w.heap.size 0 0) := hr; replace hB := hB.trans (one_below hb (Nat.le_refl _) hB.size); clear hr hb H7)
    | (go_at_call 7; refine (ra_is H8.out (r := 1) (e0 := 0) (c' := 2) (by decide) (by decide)).mono ?_; rintro e w9 ⟨rfl, hr, hb⟩; have H9 : Hid (Tab w9 w.heap.size 2 0) := hr; replace hB := hB.trans (one_below hb (Nat.le_refl _) hB.size); clear hr hb H8)
    | (go_at_call 11; refine (ma_is H9.out (r := 1) (on := true) (e0 := 0) (m' := 2) (by decide) (by decide)).mono ?_; rintro e w10 ⟨rfl, hr, hb⟩; have H10 : Hid (Tab w10 w.heap.size 2 2) := hr; replace hB := hB.trans (one_below hb (Nat.le_refl _) hB.size); clear hr hb H9)
    | (go_at_call 12; refine (ms_is H10.out).mono ?_; rintro e wx ⟨rfl, hwx⟩; obtain rfl := hwx.symm)
    | (go_at_call 8; refine (nx_is H10.out (k := 0) (e0 := 11) (c' := 2) (by decide) (by decide) (by decide)).mono ?_; rintro e w11 ⟨rfl, hr, hb⟩; have H11 : Hid (Tab w11 w.heap.size 2 2) := hr; replace hB := hB.trans (one_below hb (Nat.le_refl _) hB.size); clear hr hb H10)
    | (go_at_call 11; refine (ma_is H11.out (r := 1) (on := false) (e0 := 0) (m' := 0) (by decide) (by decide)).mono ?_; rintro e w12 ⟨rfl, hr, hb⟩; have H12 : Hid (Tab w12 w.heap.size 2 0) := hr; replace hB := hB.trans (one_below hb (Nat.le_refl _) hB.size); clear hr hb H11)
    | (go_at_call 8; refine (nx_is H12.out (k := 1) (e0 := 0) (c' := 0) (by decide) (by decide) (by decide)).mono ?_; rintro e w13 ⟨rfl, hr, hb⟩; have H13 : Hid (Tab w13 w.heap.size 0 0) := hr; replace hB := hB.trans (one_below hb (Nat.le_refl _) hB.size); clear hr hb H12))
  go_ret
  exact ⟨rfl, hB⟩
/-- the lines from g on -/
def up (c g : Nat) : Nat := p8 fun k => decide (g ≤ k) && c.testBit k
theorem up_lt (c g : Nat) : up c g < 256 := p8_lt _
theorem up_bit (c g j : Nat) : (up c g).testBit j = (decide (j < 8) && (decide (g ≤ j) && c.testBit j)) := p8_bit _ j
theorem up_8 (c : Nat) : up c 8 = 0 := low_eq (up_lt _ _) (by decide) fun k hk => by rw [up_bit, zero_bit]; simp; omega
theorem up_0 {c : Nat} (h : c < 256) : up c 0 = c := p8_is h _ fun k hk => by simp
theorem up_yes {c g : Nat} (hg : g < 8) (h : c.testBit g = true) : st (up c (g + 1)) g = up c g := by
  refine low_eq (st_lt (up_lt _ _) hg) (up_lt _ _) fun k hk => ?_
  rw [st_bit, up_bit, up_bit]
  by_cases e : k = g
  · subst e; simp [h, hk]
  · rw [show decide (g + 1 ≤ k) = decide (g ≤ k) from decide_eq_decide.2 (by omega)]; simp [e]
theorem up_no {c g : Nat} (h : c.testBit g = false) : up c (g + 1) = up c g := by
  refine low_eq (up_lt _ _) (up_lt _ _) fun k hk => ?_
  rw [up_bit, up_bit]
  by_cases e : k = g
  · subst e; simp [h]
  · rw [show decide (g + 1 ≤ k) = decide (g ≤ k) from decide_eq_decide.2 (by omega)]
/-- a line's bit, as the statements ask for it -/
theorem ask_bit {c : Nat} (hc : c < 256) (g : Nat) : bits .and .u8 ((c : Int) / 2 ^ g) 1 = if c.testBit g then 1 else 0 := by
  have e : ((c : Int) / 2 ^ g) = ((c / 2 ^ g : Nat) : Int) := by simp
  have hl : c / 2 ^ g ≤ c := Nat.div_le_self _ _
  rw [e, show (1 : Int) = ((1 : Nat) : Int) from rfl, u8_and_nat _ _ (by omega) (by decide), Nat.and_one_is_mod, Nat.testBit_eq_decide_div_mod_eq]
  by_cases h : c / 2 ^ g % 2 = 1
  · simp [h]
  · rw [show c / 2 ^ g % 2 = 0 by omega]; simp
set_option maxHeartbeats 4000000 in
theorem set_any {c m : Nat} (hc : c < 256) (hm : m < 256) (w : World) :
    Calls Try.prog 10 #[.int .u8 (c : Nat), .int .u8 (m : Nat)] w fun e w' => e = .returned (.pointer (some ⟨w.heap.size, 0, none⟩)) ∧ Tab w' w.heap.size c m ∧ Below w.heap.size w w' := by
  go_enter Try.func10, Try.ntmps10
  go_wp2_with (first
    | (go_at_call 6; refine new_any.mono ?_; rintro e w0 ⟨rfl, hr, hb⟩; have H0 : Hid (Tab w0 w.heap.size 0 0) := hr; have HB0 : Hid (Below w.heap.size w w0) := hb; clear hr hb))
  go_loopg [6] 8 (fun g s6 wx => g ≤ 8 ∧ s6 = .int .i64 ((g : Int) - 1) ∧ Hid (Tab wx w.heap.size (up c g) (up m g)) ∧ Hid (Below w.heap.size w wx))
  case atStart => exact ⟨by omega, rfl, by rw [up_8, up_8]; exact H0, HB0⟩
  case round =>
    clear H0 HB0
    obtain ⟨hg8, rfl, HT, HB⟩ := hrel
    cases gk with
    | zero =>
      rw [up_0 hc, up_0 hm] at HT
      go_wp2
      go_ret
      exact ⟨rfl, HT.out, HB.out⟩
    | succ g =>
      have hg : g < 8 := by omega
      rw [show ((g + 1 : Nat) : Int) - 1 = (g : Int) by omega]
      have h1 := ask_bit hc g
      have h2 := ask_bit hm g
      by_cases qc : c.testBit g = true
      · rw [if_pos qc] at h1
        have EC : Hid (st (up c (g + 1)) g = up c g) := up_yes hg qc
        by_cases qm : m.testBit g = true
        · rw [if_pos qm] at h2
          have EM : Hid (st (up m (g + 1)) g = up m g) := up_yes hg qm
          clear qc qm
          go_wp2_with (first
            | (go_at_call 7; refine (raise_k HT.out hg).mono ?_; rintro e w1 ⟨rfl, hr, hb⟩; rw [EC.out] at hr; have HT1 : Hid (Tab w1 w.heap.size (up c g) (up m (g + 1))) := hr; replace HB : Hid (Below w.heap.size w w1) := HB.out.trans (one_below hb (Nat.le_refl _) HB.out.size); clear hr hb HT)
            | (go_at_call 11; refine (mask_k HT1.out hg).mono ?_; rintro e w2 ⟨rfl, hr, hb⟩; rw [EM.out] at hr; have HT2 : Hid (Tab w2 w.heap.size (up c g) (up m g)) := hr; replace HB : Hid (Below w.heap.size w w2) := HB.out.trans (one_below hb (Nat.le_refl _) HB.out.size); clear hr hb HT1))
          go_roundg g
          case measure => omega
          case rel => exact ⟨by omega, by go_num, HT2, HB⟩
        · rw [if_neg qm] at h2
          have EM : Hid (up m (g + 1) = up m g) := up_no (by simpa using qm)
          clear qc qm
          go_wp2_with (first
            | (go_at_call 7; refine (raise_k HT.out hg).mono ?_; rintro e w1 ⟨rfl, hr, hb⟩; rw [EC.out] at hr; have HT1 : Hid (Tab w1 w.heap.size (up c g) (up m (g + 1))) := hr; replace HB : Hid (Below w.heap.size w w1) := HB.out.trans (one_below hb (Nat.le_refl _) HB.out.size); clear hr hb HT))
          go_roundg g
          case measure => omega
          case rel => exact ⟨by omega, by go_num, by rw [← EM.out]; exact HT1, HB⟩
      · rw [if_neg qc] at h1
        have EC : Hid (up c (g + 1) = up c g) := up_no (by simpa using qc)
        rw [EC.out] at HT
        by_cases qm : m.testBit g = true
        · rw [if_pos qm] at h2
          have EM : Hid (st (up m (g + 1)) g = up m g) := up_yes hg qm
          clear qc qm
          go_wp2_with (first
            | (go_at_call 11; refine (mask_k HT.out hg).mono ?_; rintro e w2 ⟨rfl, hr, hb⟩; rw [EM.out] at hr; have HT2 : Hid (Tab w2 w.heap.size (up c g) (up m g)) := hr; replace HB : Hid (Below w.heap.size w w2) := HB.out.trans (one_below hb (Nat.le_refl _) HB.out.size); clear hr hb HT))
          go_roundg g
          case measure => omega
          case rel => exact ⟨by omega, by go_num, HT2, HB⟩
        · rw [if_neg qm] at h2
          have EM : Hid (up m (g + 1) = up m g) := up_no (by simpa using qm)
          rw [EM.out] at HT
          clear qc qm
          go_wp2
          go_roundg g
          case measure => omega
          case rel => exact ⟨by omega, by go_num, HT, HB⟩
end Go.Proofs.Ytedheamenlnfkab
