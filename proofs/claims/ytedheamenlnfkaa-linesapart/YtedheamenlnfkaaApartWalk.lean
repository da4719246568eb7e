/- 'LinesApart' walked: what one line does changes nothing of the others', and a mask nothing of who calls. -/
import Derived.Test.YtedheamenlnfkaaSeen
namespace Go.Proofs.Ytedheamenlnfkaa
open Go Go.RowKit
set_option maxRecDepth 100000
set_option linter.unusedVariables false
def pw (k : Nat) : Nat := 2 ^ k
theorem shl_pw {k : Nat} (hk : k < 8) : (2 : Int) ^ k % 256 = ((pw k : Nat) : Int) := shl_one hk
theorem or_pw {c k : Nat} (hc : c < 256) (hk : k < 8) : bits .or .u8 (c : Int) ((pw k : Nat) : Int) = ((st c k : Nat) : Int) := u8_or_nat c _ hc (pow_lt hk)
theorem not_pw {c k : Nat} (hc : c < 256) (hk : k < 8) : bits .andNot .u8 (c : Int) ((pw k : Nat) : Int) = ((cl c k : Nat) : Int) := u8_andNot_nat c _ hc (pow_lt hk)
theorem or_none {c : Nat} (hc : c < 256) : bits .or .u8 (c : Int) 0 = (c : Int) := by
  have := u8_or_nat c 0 hc (by decide)
  simpa using this
theorem and_255 {c : Nat} (hc : c < 256) : c &&& 255 = c := by
  have := Nat.and_two_pow_sub_one_eq_mod c 8
  rw [show (2 : Nat) ^ 8 - 1 = 255 from rfl] at this
  rw [this]; omega
theorem not_none {c : Nat} (hc : c < 256) : bits .andNot .u8 (c : Int) 0 = (c : Int) := by
  have := u8_andNot_nat c 0 hc (by decide)
  rw [Nat.sub_zero, and_255 hc] at this
  simpa using this
theorem cl_st {m k : Nat} (hm : m < 256) (hk : k < 8) : cl (st m k) k = cl m k := by
  refine low_eq cl_lt cl_lt fun j hj => ?_
  rw [cl_bit (st_lt hm hk) hk, cl_bit hm hk, st_bit]
  by_cases e : j = k <;> simp [e]
set_option maxHeartbeats 4000000 in
theorem apart_any (ci mi r : Int) (h1 : 0 ≤ ci ∧ ci ≤ 255) (h2 : 0 ≤ mi ∧ mi ≤ 255) (w : World) :
    Calls Try.prog 6 #[.int .u8 ci, .int .u8 mi, .int .i64 r] w fun e w' => e = .returned (.bool true) ∧ Below w.heap.size w w' := by
  obtain ⟨c, rfl⟩ := Int.eq_ofNat_of_zero_le h1.1
  obtain ⟨m, rfl⟩ := Int.eq_ofNat_of_zero_le h2.1
  have hc : c < 256 := by omega
  have hm : m < 256 := by omega
  have hS := set_any hc hm w
  clear h1 h2
  by_cases q : ln r = true
  · obtain ⟨k, rfl, hk⟩ := ln_of q
    have p1 := shl_pw hk
    have p2 := or_pw hc hk
    have p3 := or_pw hm hk
    have p4 := not_pw hm hk
    have EM : Hid (cl (st m k) k = cl m k) := cl_st hm hk
    have hkI : (k : Int) < 8 := by omega
    clear q
    generalize pw k = b at *
    go_enter Try.func6, Try.ntmps6
    go_wp2_with (first
      | (go_at_call 20; refine hS.mono ?_; rintro e w0 ⟨rfl, hr, hb⟩; have H0 : Hid (Tab w0 w.heap.size c m) := hr; have HB : Hid (Below w.heap.size w w0) := hb; clear hr hb)
      | (go_at_call 10; refine (raise_k H0.out hk).mono ?_; rintro e w1 ⟨rfl, hr, hb⟩; have H1 : Hid (Tab w1 w.heap.size (st c k) m) := hr; replace HB : Hid (Below w.heap.size w w1) := HB.out.trans (one_below hb (Nat.le_refl _) HB.out.size); clear hr hb H0)
      | (go_at_call 16; refine (calls_any H1.out).mono ?_; rintro e wx ⟨rfl, hwx⟩; obtain rfl := hwx.symm)
      | (go_at_call 18; refine (masks_any H1.out).mono ?_; rintro e wx ⟨rfl, hwx⟩; obtain rfl := hwx.symm)
      | (go_at_call 12; refine (mask_k H1.out hk).mono ?_; rintro e w2 ⟨rfl, hr, hb⟩; have H2 : Hid (Tab w2 w.heap.size (st c k) (st m k)) := hr; replace HB : Hid (Below w.heap.size w w2) := HB.out.trans (one_below hb (Nat.le_refl _) HB.out.size); clear hr hb H1)
      | (go_at_call 16; refine (calls_any H2.out).mono ?_; rintro e wx ⟨rfl, hwx⟩; obtain rfl := hwx.symm)
      | (go_at_call 18; refine (masks_any H2.out).mono ?_; rintro e wx ⟨rfl, hwx⟩; obtain rfl := hwx.symm)
      | (go_at_call 12; refine (hear_k H2.out hk).mono ?_; rintro e w3 ⟨rfl, hr, hb⟩; rw [EM.out] at hr; have H3 : Hid (Tab w3 w.heap.size (st c k) (cl m k)) := hr; replace HB : Hid (Below w.heap.size w w3) := HB.out.trans (one_below hb (Nat.le_refl _) HB.out.size); clear hr hb H2)
      | (go_at_call 21; refine (alive_any _).mono ?_; rintro e w4 ⟨rfl, hb⟩; have H4 : Hid (Tab w4 w.heap.size (st c k) (cl m k)) := H3.out.below hb; replace HB : Hid (Below w.heap.size w w4) := HB.out.trans (hb.mono HB.out.size); clear hb H3)
      | (go_at_call 16; refine (calls_any H4.out).mono ?_; rintro e wx ⟨rfl, hwx⟩; obtain rfl := hwx.symm)
      | (go_at_call 18; refine (masks_any H4.out).mono ?_; rintro e wx ⟨rfl, hwx⟩; obtain rfl := hwx.symm))
    go_ret
    exact ⟨rfl, HB.out⟩
  · have p2 := or_none hc
    have p3 := or_none hm
    have p4 := not_none hm
    have E1 : Hid (lnE r = 1) := if_neg q
    have E2 : Hid (raiseC c r = c) := if_neg q
    have E3 : Hid (∀ on, maskM m r on = m) := fun on => if_neg q
    have hq : ¬ (0 ≤ r ∧ r < 8) := by simpa [ln] using q
    clear q
    by_cases hr0 : 0 ≤ r
    · have hr8 : ¬ r < 8 := by omega
      clear hq
      go_enter Try.func6, Try.ntmps6
      go_wp2_with (first
        | (go_at_call 20; refine hS.mono ?_; rintro e w0 ⟨rfl, hr, hb⟩; have H0 : Hid (Tab w0 w.heap.size c m) := hr; have HB : Hid (Below w.heap.size w w0) := hb; clear hr hb)
        | (go_at_call 10; refine (ra_is H0.out E1.out E2.out).mono ?_; rintro e w1 ⟨rfl, hr, hb⟩; have H1 : Hid (Tab w1 w.heap.size c m) := hr; replace HB : Hid (Below w.heap.size w w1) := HB.out.trans (one_below hb (Nat.le_refl _) HB.out.size); clear hr hb H0)
        | (go_at_call 16; refine (calls_any H1.out).mono ?_; rintro e wx ⟨rfl, hwx⟩; obtain rfl := hwx.symm)
        | (go_at_call 18; refine (masks_any H1.out).mono ?_; rintro e wx ⟨rfl, hwx⟩; obtain rfl := hwx.symm)
        | (go_at_call 12; refine (ma_is H1.out E1.out (E3.out true)).mono ?_; rintro e w2 ⟨rfl, hr, hb⟩; have H2 : Hid (Tab w2 w.heap.size c m) := hr; replace HB : Hid (Below w.heap.size w w2) := HB.out.trans (one_below hb (Nat.le_refl _) HB.out.size); clear hr hb H1)
        | (go_at_call 16; refine (calls_any H2.out).mono ?_; rintro e wx ⟨rfl, hwx⟩; obtain rfl := hwx.symm)
        | (go_at_call 18; refine (masks_any H2.out).mono ?_; rintro e wx ⟨rfl, hwx⟩; obtain rfl := hwx.symm)
        | (go_at_call 12; refine (ma_is H2.out E1.out (E3.out false)).mono ?_; rintro e w3 ⟨rfl, hr, hb⟩; have H3 : Hid (Tab w3 w.heap.size c m) := hr; replace HB : Hid (Below w.heap.size w w3) := HB.out.trans (one_below hb (Nat.le_refl _) HB.out.size); clear hr hb H2)
        | (go_at_call 21; refine (alive_any _).mono ?_; rintro e w4 ⟨rfl, hb⟩; have H4 : Hid (Tab w4 w.heap.size c m) := H3.out.below hb; replace HB : Hid (Below w.heap.size w w4) := HB.out.trans (hb.mono HB.out.size); clear hb H3)
        | (go_at_call 16; refine (calls_any H4.out).mono ?_; rintro e wx ⟨rfl, hwx⟩; obtain rfl := hwx.symm)
        | (go_at_call 18; refine (masks_any H4.out).mono ?_; rintro e wx ⟨rfl, hwx⟩; obtain rfl := hwx.symm))
      go_ret
      exact ⟨rfl, HB.out⟩
    · clear hq
      go_enter Try.func6, Try.ntmps6
      go_wp2_with (first
        | (go_at_call 20; refine hS.mono ?_; rintro e w0 ⟨rfl, hr, hb⟩; have H0 : Hid (Tab w0 w.heap.size c m) := hr; have HB : Hid (Below w.heap.size w w0) := hb; clear hr hb)
        | (go_at_call 10; refine (ra_is H0.out E1.out E2.out).mono ?_; rintro e w1 ⟨rfl, hr, hb⟩; have H1 : Hid (Tab w1 w.heap.size c m) := hr; replace HB : Hid (Below w.heap.size w w1) := HB.out.trans (one_below hb (Nat.le_refl _) HB.out.size); clear hr hb H0)
        | (go_at_call 16; refine (calls_any H1.out).mono ?_; rintro e wx ⟨rfl, hwx⟩; obtain rfl := hwx.symm)
        | (go_at_call 18; refine (masks_any H1.out).mono ?_; rintro e wx ⟨rfl, hwx⟩; obtain rfl := hwx.symm)
        | (go_at_call 12; refine (ma_is H1.out E1.out (E3.out true)).mono ?_; rintro e w2 ⟨rfl, hr, hb⟩; have H2 : Hid (Tab w2 w.heap.size c m) := hr; replace HB : Hid (Below w.heap.size w w2) := HB.out.trans (one_below hb (Nat.le_refl _) HB.out.size); clear hr hb H1)
        | (go_at_call 16; refine (calls_any H2.out).mono ?_; rintro e wx ⟨rfl, hwx⟩; obtain rfl := hwx.symm)
        | (go_at_call 18; refine (masks_any H2.out).mono ?_; rintro e wx ⟨rfl, hwx⟩; obtain rfl := hwx.symm)
        | (go_at_call 12; refine (ma_is H2.out E1.out (E3.out false)).mono ?_; rintro e w3 ⟨rfl, hr, hb⟩; have H3 : Hid (Tab w3 w.heap.size c m) := hr; replace HB : Hid (Below w.heap.size w w3) := HB.out.trans (one_below hb (Nat.le_refl _) HB.out.size); clear hr hb H2)
        | (go_at_call 21; refine (alive_any _).mono ?_; rintro e w4 ⟨rfl, hb⟩; have H4 : Hid (Tab w4 w.heap.size c m) := H3.out.below hb; replace HB : Hid (Below w.heap.size w w4) := HB.out.trans (hb.mono HB.out.size); clear hb H3)
        | (go_at_call 16; refine (calls_any H4.out).mono ?_; rintro e wx ⟨rfl, hwx⟩; obtain rfl := hwx.symm)
        | (go_at_call 18; refine (masks_any H4.out).mono ?_; rintro e wx ⟨rfl, hwx⟩; obtain rfl := hwx.symm))
      go_ret
      exact ⟨rfl, HB.out⟩
end Go.Proofs.Ytedheamenlnfkaa
