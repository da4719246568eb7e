/- LaddersOne: what is set is there, what is cleared is not, all others stay. -/
import Derived.Test.YtjcaiejbibhpiaaSeen
namespace Go.Proofs.Ytjcaiejbibhpiaa
open Go Go.RowKit
set_option maxRecDepth 100000
set_option linter.unusedVariables false
theorem has_is {w : World} {sp : Option Addr} {l n : Nat} (hl : l < 4294967296) (hs : Src w sp (told l)) (hn : n = (told l).length) (c : Nat) (r : Int) (b : Bool) (hb : decide (r ∈ told l) = b) :
    Calls Try.prog 13 #[.slice sp n c, .int .i64 r] w fun e w' => e = .returned (.bool b) ∧ w' = w := by
  subst hn hb
  exact has_any hs (by have := told_le l; omega) c r
theorem in_nat {l : Nat} (hl : l < 4294967296) (i : Nat) : decide ((i : Int) ∈ told l) = l.testBit i := told_nat hl i
theorem in_set {l : Nat} (hl : l < 4294967296) (r : Int) (i : Nat) (h : (i : Int) ≠ r) : decide ((i : Int) ∈ told (setL l r)) = l.testBit i := by
  rw [told_nat (setL_lt hl r), setL_bit]; simp [h]
theorem in_clr {l : Nat} (hl : l < 4294967296) (r : Int) (i : Nat) (h : (i : Int) ≠ r) : decide ((i : Int) ∈ told (clrL l r)) = l.testBit i := by
  rw [told_nat (clrL_lt hl r), clrL_bit hl]; simp [h]
theorem set_in {l : Nat} (hl : l < 4294967296) (r : Int) (h : 0 ≤ r ∧ r ≤ 31) : decide (r ∈ told (setL l r)) = true := by
  obtain ⟨k, rfl⟩ := Int.eq_ofNat_of_zero_le h.1
  rw [told_nat (setL_lt hl _), setL_bit]
  have : k < 32 := by omega
  simp [this]
theorem no_in {l : Nat} (hl : l < 4294967296) (r : Int) (h : ¬ (0 ≤ r ∧ r ≤ 31)) : decide (r ∈ told l) = false := by
  rw [decide_eq_false_iff_not, told_mem hl]
  rintro ⟨a, b⟩
  have := bit_low hl b
  omega
theorem clr_in {l : Nat} (hl : l < 4294967296) (r : Int) : decide (r ∈ told (clrL l r)) = false := by
  rw [decide_eq_false_iff_not, told_mem (clrL_lt hl r), clrL_bit hl]
  rintro ⟨a, b⟩
  have : ((r.toNat : Nat) : Int) = r := by omega
  simp [this] at b
set_option maxHeartbeats 4000000 in
theorem one_any (l : Nat) (hl : l < 4294967296) (r : Int) (w : World) :
    Calls Try.prog 4 #[.int .u32 (l : Int), .int .i64 r] w fun e w' => e = .returned (.bool true) ∧ Below w.heap.size w w' := by
  have L1 := setL_lt hl r
  have L2 := clrL_lt hl r
  obtain ⟨p, hp⟩ : ∃ p, setL l r = p := ⟨_, rfl⟩
  obtain ⟨q, hq⟩ : ∃ q, clrL l r = q := ⟨_, rfl⟩
  have I1 : Hid (∀ i : Nat, (i : Int) ≠ r → decide ((i : Int) ∈ told p) = l.testBit i) := hp ▸ in_set hl r
  have I2 : Hid (∀ i : Nat, (i : Int) ≠ r → decide ((i : Int) ∈ told q) = l.testBit i) := hq ▸ in_clr hl r
  have I3 : Hid (decide (r ∈ told q) = false) := hq ▸ clr_in hl r
  have HP : Hid (setL l r = p) := hp
  have HQ : Hid (clrL l r = q) := hq
  rw [hp] at L1
  rw [hq] at L2
  have n0 : Hid (∀ l : Nat, (told l).length ≤ 32) := told_le
  by_cases h1 : 0 ≤ r
  · by_cases h2 : r ≤ 31
    · have I4 : Hid (decide (r ∈ told p) = true) := hp ▸ set_in hl r ⟨h1, h2⟩
      clear hp hq
      go_enter Try.func4, Try.ntmps4
      go_wp2_with (first
        | (go_at_call_of 12 (Value.int IntKind.u32 (l : Int)); refine (list_src l hl _).mono ?_; rintro e w1 ⟨sp1, cap1, rfl, hs1, hB⟩)
        | (go_at_call 8; refine (set_n l r p hl HP.out _).mono ?_; rintro e w' ⟨rfl, rfl⟩)
        | (go_at_call 10; refine (clear_n l r q hl HQ.out _).mono ?_; rintro e w' ⟨rfl, rfl⟩)
        | (go_at_call_of 12 (Value.int IntKind.u32 (p : Int)); refine (list_src p L1 _).mono ?_; rintro e w2 ⟨sp2, cap2, rfl, hs2, hb⟩; replace hB := hB.trans (hb.mono hB.size); replace hs1 := hs1.below hb; clear hb)
        | (go_at_call_of 12 (Value.int IntKind.u32 (q : Int)); refine (list_src q L2 _).mono ?_; rintro e w3 ⟨sp3, cap3, rfl, hs3, hb⟩; replace hB := hB.trans (hb.mono hB.size); replace hs1 := hs1.below hb; replace hs2 := hs2.below hb; clear hb)
        | (go_at_call_of 13 (Value.slice sp2 (told p).length cap2); refine (has_is L1 hs2 rfl _ r _ I4.out).mono ?_; rintro e wx ⟨rfl, hwx⟩; obtain rfl := hwx.symm)
        | (go_at_call_of 13 (Value.slice sp3 (told q).length cap3); refine (has_is L2 hs3 rfl _ r _ I3.out).mono ?_; rintro e wx ⟨rfl, hwx⟩; obtain rfl := hwx.symm))
      go_loopg [9] 32 (fun g s9 wx => ∃ i : Nat, i + g = 32 ∧ s9 = .int .i64 i ∧ w3 = wx)
      case atStart => exact ⟨0, by omega, rfl, rfl⟩
      case round =>
        obtain ⟨i, hig, rfl, rfl⟩ := hrel
        cases gk with
        | zero =>
          have hlt : ¬ ((i : Int) < 32) := by omega
          go_wp2_with (first
            | (go_at_call 14; refine (alive_any _).mono ?_; rintro e w4 ⟨rfl, hb⟩; replace hB := hB.trans (hb.mono hB.size))
            | (go_at_call 8; refine (set_n l r l hl E1.out _).mono ?_; rintro e w' ⟨rfl, rfl⟩)
            | (go_at_call 10; refine (clear_n l r l hl E2.out _).mono ?_; rintro e w' ⟨rfl, rfl⟩))
          go_ret
          exact ⟨rfl, hB⟩
        | succ g =>
          have hlt : (i : Int) < 32 := by omega
          by_cases hi : (i : Int) = r
          · have hi' : ((i : Int) != r) = false := by simp [hi]
            go_wp2
            go_roundg g
            case measure => omega
            case rel => exact ⟨i + 1, by omega, by go_num, rfl⟩
          · have hi' : ((i : Int) != r) = true := by simp [hi]
            go_wp2_with (first
              | (go_at_call_of 13 (Value.slice sp1 (told l).length cap1); refine (has_is hl hs1 rfl _ _ _ (in_nat hl i)).mono ?_; rintro e wx ⟨rfl, hwx⟩; obtain rfl := hwx.symm)
              | (go_at_call_of 13 (Value.slice sp2 (told p).length cap2); refine (has_is L1 hs2 rfl _ _ _ (I1.out i hi)).mono ?_; rintro e wx ⟨rfl, hwx⟩; obtain rfl := hwx.symm)
              | (go_at_call_of 13 (Value.slice sp3 (told q).length cap3); refine (has_is L2 hs3 rfl _ _ _ (I2.out i hi)).mono ?_; rintro e wx ⟨rfl, hwx⟩; obtain rfl := hwx.symm))
            go_roundg g
            case measure => omega
            case rel => exact ⟨i + 1, by omega, by go_num, rfl⟩
    · have I4 : Hid (decide (r ∈ told p) = false) := no_in L1 r (by omega)
      have E1 : Hid (setL l r = l) := setL_none l (by omega)
      have E2 : Hid (clrL l r = l) := clrL_none hl (by omega)
      clear hp hq
      go_enter Try.func4, Try.ntmps4
      go_wp2_with (first
        | (go_at_call_of 12 (Value.int IntKind.u32 (l : Int)); refine (list_src l hl _).mono ?_; rintro e w1 ⟨sp1, cap1, rfl, hs1, hB⟩)
        | (go_at_call 8; refine (set_n l r p hl HP.out _).mono ?_; rintro e w' ⟨rfl, rfl⟩)
        | (go_at_call 10; refine (clear_n l r q hl HQ.out _).mono ?_; rintro e w' ⟨rfl, rfl⟩)
        | (go_at_call_of 12 (Value.int IntKind.u32 (p : Int)); refine (list_src p L1 _).mono ?_; rintro e w2 ⟨sp2, cap2, rfl, hs2, hb⟩; replace hB := hB.trans (hb.mono hB.size); replace hs1 := hs1.below hb; clear hb)
        | (go_at_call_of 12 (Value.int IntKind.u32 (q : Int)); refine (list_src q L2 _).mono ?_; rintro e w3 ⟨sp3, cap3, rfl, hs3, hb⟩; replace hB := hB.trans (hb.mono hB.size); replace hs1 := hs1.below hb; replace hs2 := hs2.below hb; clear hb)
        | (go_at_call_of 13 (Value.slice sp2 (told p).length cap2); refine (has_is L1 hs2 rfl _ r _ I4.out).mono ?_; rintro e wx ⟨rfl, hwx⟩; obtain rfl := hwx.symm)
        | (go_at_call_of 13 (Value.slice sp3 (told q).length cap3); refine (has_is L2 hs3 rfl _ r _ I3.out).mono ?_; rintro e wx ⟨rfl, hwx⟩; obtain rfl := hwx.symm))
      go_loopg [9] 32 (fun g s9 wx => ∃ i : Nat, i + g = 32 ∧ s9 = .int .i64 i ∧ w3 = wx)
      case atStart => exact ⟨0, by omega, rfl, rfl⟩
      case round =>
        obtain ⟨i, hig, rfl, rfl⟩ := hrel
        cases gk with
        | zero =>
          have hlt : ¬ ((i : Int) < 32) := by omega
          go_wp2_with (first
            | (go_at_call 14; refine (alive_any _).mono ?_; rintro e w4 ⟨rfl, hb⟩; replace hB := hB.trans (hb.mono hB.size))
            | (go_at_call 8; refine (set_n l r l hl E1.out _).mono ?_; rintro e w' ⟨rfl, rfl⟩)
            | (go_at_call 10; refine (clear_n l r l hl E2.out _).mono ?_; rintro e w' ⟨rfl, rfl⟩))
          go_ret
          exact ⟨rfl, hB⟩
        | succ g =>
          have hlt : (i : Int) < 32 := by omega
          by_cases hi : (i : Int) = r
          · exact absurd hi (by omega)
          · have hi' : ((i : Int) != r) = true := by simp [hi]
            go_wp2_with (first
              | (go_at_call_of 13 (Value.slice sp1 (told l).length cap1); refine (has_is hl hs1 rfl _ _ _ (in_nat hl i)).mono ?_; rintro e wx ⟨rfl, hwx⟩; obtain rfl := hwx.symm)
              | (go_at_call_of 13 (Value.slice sp2 (told p).length cap2); refine (has_is L1 hs2 rfl _ _ _ (I1.out i hi)).mono ?_; rintro e wx ⟨rfl, hwx⟩; obtain rfl := hwx.symm)
              | (go_at_call_of 13 (Value.slice sp3 (told q).length cap3); refine (has_is L2 hs3 rfl _ _ _ (I2.out i hi)).mono ?_; rintro e wx ⟨rfl, hwx⟩; obtain rfl := hwx.symm))
            go_roundg g
            case measure => omega
            case rel => exact ⟨i + 1, by omega, by go_num, rfl⟩
  · have I4 : Hid (decide (r ∈ told p) = false) := no_in L1 r (by omega)
    have E1 : Hid (setL l r = l) := setL_none l (by omega)
    have E2 : Hid (clrL l r = l) := clrL_none hl (by omega)
    clear hp hq
    go_enter Try.func4, Try.ntmps4
    go_wp2_with (first
      | (go_at_call_of 12 (Value.int IntKind.u32 (l : Int)); refine (list_src l hl _).mono ?_; rintro e w1 ⟨sp1, cap1, rfl, hs1, hB⟩)
      | (go_at_call 8; refine (set_n l r p hl HP.out _).mono ?_; rintro e w' ⟨rfl, rfl⟩)
      | (go_at_call 10; refine (clear_n l r q hl HQ.out _).mono ?_; rintro e w' ⟨rfl, rfl⟩)
      | (go_at_call_of 12 (Value.int IntKind.u32 (p : Int)); refine (list_src p L1 _).mono ?_; rintro e w2 ⟨sp2, cap2, rfl, hs2, hb⟩; replace hB := hB.trans (hb.mono hB.size); replace hs1 := hs1.below hb; clear hb)
      | (go_at_call_of 12 (Value.int IntKind.u32 (q : Int)); refine (list_src q L2 _).mono ?_; rintro e w3 ⟨sp3, cap3, rfl, hs3, hb⟩; replace hB := hB.trans (hb.mono hB.size); replace hs1 := hs1.below hb; replace hs2 := hs2.below hb; clear hb)
      | (go_at_call_of 13 (Value.slice sp2 (told p).length cap2); refine (has_is L1 hs2 rfl _ r _ I4.out).mono ?_; rintro e wx ⟨rfl, hwx⟩; obtain rfl := hwx.symm)
      | (go_at_call_of 13 (Value.slice sp3 (told q).length cap3); refine (has_is L2 hs3 rfl _ r _ I3.out).mono ?_; rintro e wx ⟨rfl, hwx⟩; obtain rfl := hwx.symm))
    go_loopg [9] 32 (fun g s9 wx => ∃ i : Nat, i + g = 32 ∧ s9 = .int .i64 i ∧ w3 = wx)
    case atStart => exact ⟨0, by omega, rfl, rfl⟩
    case round =>
      obtain ⟨i, hig, rfl, rfl⟩ := hrel
      cases gk with
      | zero =>
        have hlt : ¬ ((i : Int) < 32) := by omega
        go_wp2_with (first
          | (go_at_call 14; refine (alive_any _).mono ?_; rintro e w4 ⟨rfl, hb⟩; replace hB := hB.trans (hb.mono hB.size))
          | (go_at_call 8; refine (set_n l r l hl E1.out _).mono ?_; rintro e w' ⟨rfl, rfl⟩)
          | (go_at_call 10; refine (clear_n l r l hl E2.out _).mono ?_; rintro e w' ⟨rfl, rfl⟩))
        go_ret
        exact ⟨rfl, hB⟩
      | succ g =>
        have hlt : (i : Int) < 32 := by omega
        by_cases hi : (i : Int) = r
        · exact absurd hi (by omega)
        · have hi' : ((i : Int) != r) = true := by simp [hi]
          go_wp2_with (first
            | (go_at_call_of 13 (Value.slice sp1 (told l).length cap1); refine (has_is hl hs1 rfl _ _ _ (in_nat hl i)).mono ?_; rintro e wx ⟨rfl, hwx⟩; obtain rfl := hwx.symm)
            | (go_at_call_of 13 (Value.slice sp2 (told p).length cap2); refine (has_is L1 hs2 rfl _ _ _ (I1.out i hi)).mono ?_; rintro e wx ⟨rfl, hwx⟩; obtain rfl := hwx.symm)
            | (go_at_call_of 13 (Value.slice sp3 (told q).length cap3); refine (has_is L2 hs3 rfl _ _ _ (I2.out i hi)).mono ?_; rintro e wx ⟨rfl, hwx⟩; obtain rfl := hwx.symm))
          go_roundg g
          case measure => omega
          case rel => exact ⟨i + 1, by omega, by go_num, rfl⟩
theorem one_row (a : Int) (b : 0 ≤ a ∧ a ≤ 4294967295) (r : Int) (w : World) :
    Calls Try.prog 4 #[.int .u32 a, .int .i64 r] w fun e w' => e = .returned (.bool true) ∧ Below w.heap.size w w' := by
  obtain ⟨l, rfl⟩ := Int.eq_ofNat_of_zero_le b.1
  exact one_any l (by omega) r w
end Go.Proofs.Ytjcaiejbibhpiaa
