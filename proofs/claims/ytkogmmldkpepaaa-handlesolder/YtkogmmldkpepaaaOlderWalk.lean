/- 'HandlesOlder' walked: made and dropped again and again at one place, a handle is 256 more each time. -/
import Derived.Test.YtkogmmldkpepaaaSeen
namespace Go.Proofs.Ytkogmmldkpepaaa
open Go Go.RowKit
set_option maxRecDepth 100000
set_option linter.unusedVariables false
/-- the first place alone was used, so often -/
def old (k : Nat) (b : Bool) : Slots := upd none0 0 (k, b)
theorem old_at (k : Nat) (b : Bool) : old k b 0 = (k, b) := upd_at _ _ _
theorem old_ne (k : Nat) (b : Bool) {j : Nat} (h : j ≠ 0) : old k b j = (0, false) := upd_ne _ _ h
theorem old_zero : none0 = old 0 false := by
  funext j
  by_cases e : j = 0
  · subst e; rw [old_at]; rfl
  · rw [old_ne _ _ e]; rfl
theorem old_fr {k : Nat} (h : k < 16777215) : fr 3 (old k false) = 0 := fr_is (by omega) (fun j hj => by omega) (fun _ => by rw [old_at]; simp [isFr, h])
theorem old_H {k i : Nat} (h : k < 16777215) (hi : i = k + 1) : makeH 3 (old k false) = i * 256 := by
  unfold makeH; rw [old_fr h, if_pos (by omega), old_at, hi]; rfl
theorem old_E {k : Nat} (h : k < 16777215) : makeE 3 (old k false) = 0 := by unfold makeE; rw [old_fr h]; rfl
theorem old_S {k i : Nat} (h : k < 16777215) (hi : i = k + 1) : makeS 3 (old k false) = old i true := by
  unfold makeS; rw [old_fr h, if_pos (by omega), old_at, hi]
  unfold old; rw [upd_upd]
theorem old_is {k : Nat} (h : 1 ≤ k) : placeE (old k true) (k * 256) = 0 := by
  have e : k * 256 % 256 = 0 := by omega
  refine placeE_of (by omega) ?_ ?_
  · rw [e, old_at]; simp only; omega
  · rw [e, old_at]
theorem old_D {k : Nat} (h : 1 ≤ k) : dropS (old k true) (k * 256) = old k false := by
  unfold dropS; rw [if_pos (old_is h), show k * 256 % 256 = 0 by omega, old_at]
  unfold old; rw [upd_upd]
theorem old_new {k j : Nat} (h : k < j) : placeE (old k true) (j * 256) = 5 := by
  unfold placeE; rw [show j * 256 % 256 = 0 by omega, old_at, if_pos (Or.inr (by simp only; omega))]
theorem old_other {k : Nat} (h : 1 ≤ k) : placeE (old k true) (k * 256 + 1) = 5 := by
  unfold placeE; rw [show (k * 256 + 1) % 256 = 1 by omega, old_ne _ _ (by omega), if_pos (Or.inr (by simp only; omega))]
theorem old_old {k j : Nat} (h : j < k) (h1 : 1 ≤ j) : placeE (old k true) (j * 256) = 6 := by
  unfold placeE; rw [show j * 256 % 256 = 0 by omega, old_at, if_neg (by simp only; omega), if_pos (Or.inl (by simp only; omega))]
theorem old_L (k : Nat) : listL 3 (old k true) = [k * 256] := by
  rw [listL_succ, listL_succ, listL_succ, listL_zero, old_at, old_ne _ _ (by omega), old_ne _ _ (by omega)]
  simp [hd, old_at]
set_option maxHeartbeats 4000000 in
theorem older_any (times off : Int) (ht : 0 ≤ times ∧ times ≤ 65535) (ho : 0 ≤ off ∧ off ≤ 255) (w : World) :
    Calls Try.prog 6 #[.int .u16 times, .int .u8 off] w fun e w' => e = .returned (.bool true) ∧ Below w.heap.size w w' := by
  obtain ⟨t, rfl⟩ := Int.eq_ofNat_of_zero_le ht.1
  obtain ⟨o, rfl⟩ := Int.eq_ofNat_of_zero_le ho.1
  have e1 : Int.tmod (t : Int) 500 = ((t % 500 : Nat) : Int) := rfl
  have hm : t % 500 < 500 := by omega
  obtain ⟨n, hn⟩ : ∃ n, 1 + t % 500 = n := ⟨_, rfl⟩
  have hN : (1 : Int) + ((t % 500 : Nat) : Int) = (n : Int) := by omega
  have hn1 : 1 ≤ n := by omega
  have hn5 : n ≤ 500 := by omega
  have ho' : o ≤ 255 := by omega
  clear hn hm ho
  generalize t % 500 = m at *
  go_enter Try.func6, Try.ntmps6
  go_wp2_with (first
    | (go_at_call 13; refine (nw_is 3 (by decide) (by decide)).mono ?_; rintro e w0 ⟨rfl, hr, hb⟩; have H0 : Hid (Tab w0 w.heap.size 3 none0) := hr; have HB0 : Hid (Below w.heap.size w w0) := hb; clear hr hb))
  go_loopg [8] n (fun g s8 wx => ∃ i : Nat, i + g = n + 1 ∧ 1 ≤ i ∧ s8 = .int .u32 i ∧ Hid (Tab wx w.heap.size 3 (old (i - 1) (decide (n < i)))) ∧ Hid (Below w.heap.size w wx))
  case atStart =>
    refine ⟨1, by omega, by omega, rfl, ?_, HB0⟩
    have h0 := H0.out
    rw [old_zero] at h0
    rw [decide_eq_false (by omega)]
    exact h0
  case round =>
    clear H0 HB0
    obtain ⟨i, hig, hi1, rfl, HT, HB⟩ := hrel
    cases gk with
    | zero =>
      obtain rfl : i = n + 1 := by omega
      have hle : ¬ (((n + 1 : Nat) : Int) ≤ n) := by omega
      rw [decide_eq_true (by omega), Nat.add_sub_cancel] at HT
      have HA : Hid (Tab wr w.heap.size 3 (old n true)) := HT
      clear HT
      have P1 : Hid (placeE (old n true) ((n + 1 + o) * 256) = 5) := old_new (by omega)
      have P2 : Hid (placeE (old n true) (n * 256 + 1) = 5) := old_other hn1
      by_cases q : o = 0 ∨ n ≤ o
      · have hq : ((o : Int) == 0) = true ∨ (((o : Int) == 0) = false ∧ (n : Int) ≤ o) := by
          by_cases q0 : o = 0
          · exact Or.inl (by simp; omega)
          · exact Or.inr ⟨by simp; omega, by omega⟩
        clear q
        rcases hq with hq | ⟨hq, hq2⟩
        all_goals
          go_wp2_with (first
            | (go_at_call 9; refine (pl_is HA.out ((n + 1 + o) * 256) (a := 0) (b := 5) (by omega) (placeP_no P1.out (by decide)) P1.out (x := 256 * ((n : Int) + 1 + (o : Int))) (by omega)).mono ?_; rintro e w1 ⟨rfl, hb⟩; have HA1 : Hid (Tab w1 w.heap.size 3 (old n true)) := HA.out.below hb; replace HB : Hid (Below w.heap.size w w1) := HB.out.trans (hb.mono HB.out.size); clear hb HA)
            | (go_at_call 9; refine (pl_is HA1.out (n * 256 + 1) (a := 0) (b := 5) (by omega) (placeP_no P2.out (by decide)) P2.out (x := 256 * (n : Int) + 1) (by omega)).mono ?_; rintro e w2 ⟨rfl, hb⟩; have HA2 : Hid (Tab w2 w.heap.size 3 (old n true)) := HA1.out.below hb; replace HB : Hid (Below w.heap.size w w2) := HB.out.trans (hb.mono HB.out.size); clear hb HA1)
            | (go_at_call 12; refine (alive_any _).mono ?_; rintro e w3 ⟨rfl, hb⟩; replace HB : Hid (Below w.heap.size w w3) := HB.out.trans (hb.mono HB.out.size); clear hb))
          go_ret
          exact ⟨rfl, HB.out⟩
      · have hq : ((o : Int) == 0) = false := by simp; omega
        have hq2 : ¬ (n : Int) ≤ o := by omega
        have P3 : Hid (placeE (old n true) ((n - o) * 256) = 6) := old_old (by omega) (by omega)
        clear q
        go_wp2_with (first
          | (go_at_call 9; refine (pl_is HA.out ((n + 1 + o) * 256) (a := 0) (b := 5) (by omega) (placeP_no P1.out (by decide)) P1.out (x := 256 * ((n : Int) + 1 + (o : Int))) (by omega)).mono ?_; rintro e w1 ⟨rfl, hb⟩; have HA1 : Hid (Tab w1 w.heap.size 3 (old n true)) := HA.out.below hb; replace HB : Hid (Below w.heap.size w w1) := HB.out.trans (hb.mono HB.out.size); clear hb HA)
          | (go_at_call 9; refine (pl_is HA1.out (n * 256 + 1) (a := 0) (b := 5) (by omega) (placeP_no P2.out (by decide)) P2.out (x := 256 * (n : Int) + 1) (by omega)).mono ?_; rintro e w2 ⟨rfl, hb⟩; have HA2 : Hid (Tab w2 w.heap.size 3 (old n true)) := HA1.out.below hb; replace HB : Hid (Below w.heap.size w w2) := HB.out.trans (hb.mono HB.out.size); clear hb HA1)
          | (go_at_call 9; refine (pl_is HA2.out ((n - o) * 256) (a := 0) (b := 6) (by omega) (placeP_no P3.out (by decide)) P3.out (x := 256 * ((n : Int) - (o : Int))) (by omega)).mono ?_; rintro e w3 ⟨rfl, hb⟩; have HA3 : Hid (Tab w3 w.heap.size 3 (old n true)) := HA2.out.below hb; replace HB : Hid (Below w.heap.size w w3) := HB.out.trans (hb.mono HB.out.size); clear hb HA2)
          | (go_at_call 12; refine (alive_any _).mono ?_; rintro e w4 ⟨rfl, hb⟩; have HA4 : Hid (Tab w4 w.heap.size 3 (old n true)) := HA3.out.below hb; replace HB : Hid (Below w.heap.size w w4) := HB.out.trans (hb.mono HB.out.size); clear hb HA3)
          | (go_at_call 10; refine (dr_is HA4.out ((n - o) * 256) (b := 6) (by omega) P3.out (x := 256 * ((n : Int) - (o : Int))) (by omega)).mono ?_; rintro e w5 ⟨rfl, hr, hb⟩; rw [dropS_no (by rw [P3.out]; decide)] at hr; have HA5 : Hid (Tab w5 w.heap.size 3 (old n true)) := hr; replace HB : Hid (Below w.heap.size w w5) := HB.out.trans (one_below hb (Nat.le_refl _) HB.out.size); clear hr hb HA4)
          | (go_at_call 11; refine (li_is HA5.out (old_L n)).mono ?_; rintro e w6 ⟨sp, cap, rfl, hs, hb⟩; have HS : Hid (Src w6 sp (ints [n * 256])) := hs; replace HB : Hid (Below w.heap.size w w6) := HB.out.trans (hb.mono HB.out.size); clear hs hb HA5)
          | (go_at_call 14; refine (same_is (Src.below HS.out (alloc_below w6 _)) (zs := ints [n * 256]) (Src.row (by show _ = _; rw [alloc_at]; simp [wrd, ints, Int.mul_comm])) (n := 1) rfl (by decide) _ _).mono ?_; rintro e w7 ⟨rfl, hb⟩; replace hb := (alloc_below w6 _).trans (hb.mono (by rw [alloc_size]; omega)); replace HB : Hid (Below w.heap.size w w7) := HB.out.trans (hb.mono HB.out.size); clear hb))
        go_ret
        exact ⟨rfl, HB.out⟩
    | succ g =>
      obtain ⟨k, rfl⟩ : ∃ k, i = k + 1 := ⟨i - 1, by omega⟩
      rw [decide_eq_false (by omega), Nat.add_sub_cancel] at HT
      obtain ⟨i, hi⟩ : ∃ i, i = k + 1 := ⟨_, rfl⟩
      rw [← hi] at hig ⊢
      have hle : (i : Int) ≤ n := by omega
      have M1 : Hid (makeH 3 (old k false) = i * 256) := old_H (by omega) hi
      have M2 : Hid (makeE 3 (old k false) = 0) := old_E (by omega)
      have M3 : Hid (makeS 3 (old k false) = old i true) := old_S (by omega) hi
      have HK : Hid (i = k + 1) := hi
      have hi1 : 1 ≤ i := by omega
      clear hi
      by_cases q : i < n
      · have hq : (i : Int) < n := by omega
        clear q
        go_wp2_with (first
          | (go_at_call 8; refine (mk_is HT.out M1.out M2.out (z := 256 * (i : Int)) (by omega)).mono ?_; rintro e w1 ⟨rfl, hr, hb⟩; rw [M3.out] at hr; have HA1 : Hid (Tab w1 w.heap.size 3 (old i true)) := hr; replace HB : Hid (Below w.heap.size w w1) := HB.out.trans (one_below hb (Nat.le_refl _) HB.out.size); clear hr hb HT)
          | (go_at_call 10; refine (dr_is HA1.out (i * 256) (b := 0) (by omega) (old_is hi1) (x := 256 * (i : Int)) (by omega)).mono ?_; rintro e w2 ⟨rfl, hr, hb⟩; rw [old_D hi1] at hr; have HA2 : Hid (Tab w2 w.heap.size 3 (old i false)) := hr; replace HB : Hid (Below w.heap.size w w2) := HB.out.trans (one_below hb (Nat.le_refl _) HB.out.size); clear hr hb HA1))
        go_roundg g
        case measure => omega
        case rel =>
          refine ⟨i + 1, by omega, by omega, by go_num, ?_, HB⟩
          rw [decide_eq_false (by omega), Nat.add_sub_cancel]
          exact HA2
      · have hq : ¬ (i : Int) < n := by omega
        have HQ : Hid (n < i + 1) := Nat.lt_succ_of_le (by omega)
        clear q
        go_wp2_with (first
          | (go_at_call 8; refine (mk_is HT.out M1.out M2.out (z := 256 * (i : Int)) (by omega)).mono ?_; rintro e w1 ⟨rfl, hr, hb⟩; rw [M3.out] at hr; have HA1 : Hid (Tab w1 w.heap.size 3 (old i true)) := hr; replace HB : Hid (Below w.heap.size w w1) := HB.out.trans (one_below hb (Nat.le_refl _) HB.out.size); clear hr hb HT))
        go_roundg g
        case measure => omega
        case rel =>
          refine ⟨i + 1, by omega, by omega, by go_num, ?_, HB⟩
          rw [decide_eq_true HQ.out, Nat.add_sub_cancel]
          exact HA1
end Go.Proofs.Ytkogmmldkpepaaa
