/- 'LinesOnce' walked: a line that calls so many times before it is told is told once; as often as it calls behind that it is told again. -/
import Derived.Test.YtedheamenlnfkaaSeen
namespace Go.Proofs.Ytedheamenlnfkaa
open Go Go.RowKit
set_option maxRecDepth 100000
set_option linter.unusedVariables false
theorem st_again (k : Nat) (hk : k < 8) (c : Nat) (hc : c = 0 ∨ c = st 0 k) : st c k = st 0 k := by
  rcases hc with rfl | rfl
  · rfl
  · exact low_eq (st_lt (st_lt (by decide) hk) hk) (st_lt (by decide) hk) fun j hj => by rw [st_bit, st_bit]; cases decide (j = k) <;> simp
theorem one_next {k : Nat} (hk : k < 8) : lw (bt (st 0 k) 0) = k :=
  next_yes (st_lt (by decide) hk) (by decide) hk (by rw [st_bit]; simp) (zero_bit k) fun j hj h => by
    rw [st_bit, zero_bit] at h
    simp at h
    omega
theorem one_gone {k : Nat} (hk : k < 8) : cl (st 0 k) k = 0 := by
  refine low_eq cl_lt (by decide) fun j hj => ?_
  rw [cl_bit (st_lt (by decide) hk) hk, st_bit, zero_bit]
  cases decide (j = k) <;> rfl
set_option maxHeartbeats 4000000 in
theorem once_any (li ti : Int) (h1 : 0 ≤ li ∧ li ≤ 255) (h2 : 0 ≤ ti ∧ ti ≤ 255) (w : World) :
    Calls Try.prog 7 #[.int .u8 li, .int .u8 ti] w fun e w' => e = .returned (.bool true) ∧ Below w.heap.size w w' := by
  obtain ⟨l, rfl⟩ := Int.eq_ofNat_of_zero_le h1.1
  obtain ⟨t, rfl⟩ := Int.eq_ofNat_of_zero_le h2.1
  have e1 : Int.tmod (l : Int) 8 = ((l % 8 : Nat) : Int) := rfl
  have e2 : Int.tmod (t : Int) 20 = ((t % 20 : Nat) : Int) := rfl
  have hk : l % 8 < 8 := by omega
  have ht : t % 20 < 20 := by omega
  have ON : Hid (lw (bt (st 0 (l % 8)) 0) = l % 8) := one_next hk
  have OG : Hid (cl (st 0 (l % 8)) (l % 8) = 0) := one_gone hk
  have OA : Hid (∀ c, c = 0 ∨ c = st 0 (l % 8) → st c (l % 8) = st 0 (l % 8)) := st_again _ hk
  clear h1 h2
  generalize l % 8 = k at *
  generalize t % 20 = n at *
  have hkI : (k : Int) < 8 := by omega
  go_enter Try.func7, Try.ntmps7
  go_wp2_with (first
    | (go_at_call 9; refine new_any.mono ?_; rintro e w0 ⟨rfl, hr, hb⟩; have H0 : Hid (Tab w0 w.heap.size 0 0) := hr; have HB0 : Hid (Below w.heap.size w w0) := hb; clear hr hb))
  go_loopg [7] (n + 1) (fun g s7 wx => ∃ i c : Nat, i + g = n + 1 ∧ s7 = .int .i64 i ∧ Hid (c = 0 ∨ c = st 0 k) ∧ Hid (0 < i → c = st 0 k) ∧ Hid (Tab wx w.heap.size c 0) ∧ Hid (Below w.heap.size w wx))
  case atStart => exact ⟨0, 0, by omega, rfl, Or.inl rfl, fun h => absurd h (by omega), H0, HB0⟩
  case round =>
    clear H0 HB0
    obtain ⟨i, c, hig, rfl, HC, HI, HT, HB⟩ := hrel
    cases gk with
    | zero =>
      obtain rfl : i = n + 1 := by omega
      have hlt : ¬ (((n + 1 : Nat) : Int) < (n : Int) + 1) := by omega
      have HT2 : Hid (Tab wr w.heap.size (st 0 k) 0) := by have := HT.out; rw [HI.out (by omega)] at this; exact this
      clear HT HC HI
      go_wp2
      go_loopg [8] 3 (fun g s8 wx => ∃ i : Nat, i + g = 3 ∧ s8 = .int .i64 i ∧ Hid (Tab wx w.heap.size (st 0 k) 0) ∧ Hid (Below w.heap.size w wx))
      case atStart => exact ⟨0, by omega, rfl, HT2, HB⟩
      case round =>
        clear HT2 HB
        obtain ⟨j, hjg, rfl, HT, HB⟩ := hrel
        cases gk with
        | zero =>
          obtain rfl : j = 3 := by omega
          go_wp2_with (first
            | (go_at_call 21; refine (alive_any _).mono ?_; rintro e w3 ⟨rfl, hb⟩; replace HB : Hid (Below w.heap.size w w3) := HB.out.trans (hb.mono HB.out.size); clear hb))
          go_ret
          exact ⟨rfl, HB.out⟩
        | succ g =>
          have hlt3 : (j : Int) < 3 := by omega
          go_wp2_with (first
            | (go_at_call 14; refine (next_k HT.out ON.out hk).mono ?_; rintro e w1 ⟨rfl, hr, hb⟩; rw [OG.out] at hr; have H1 : Hid (Tab w1 w.heap.size 0 0) := hr; replace HB : Hid (Below w.heap.size w w1) := HB.out.trans (one_below hb (Nat.le_refl _) HB.out.size); clear hr hb HT)
            | (go_at_call 14; refine (next_e H1.out (by decide)).mono ?_; rintro e w2 ⟨rfl, hr, hb⟩; have H2 : Hid (Tab w2 w.heap.size 0 0) := hr; replace HB : Hid (Below w.heap.size w w2) := HB.out.trans (one_below hb (Nat.le_refl _) HB.out.size); clear hr hb H1)
            | (go_at_call 16; refine (ca_is H2.out).mono ?_; rintro e wx ⟨rfl, hwx⟩; obtain rfl := hwx.symm)
            | (go_at_call 10; refine (raise_k H2.out hk).mono ?_; rintro e w3 ⟨rfl, hr, hb⟩; have H3 : Hid (Tab w3 w.heap.size (st 0 k) 0) := hr; replace HB : Hid (Below w.heap.size w w3) := HB.out.trans (one_below hb (Nat.le_refl _) HB.out.size); clear hr hb H2))
          go_roundg g
          case measure => omega
          case rel => exact ⟨j + 1, by omega, by go_num, H3, HB⟩
    | succ g =>
      have hlt : (i : Int) < (n : Int) + 1 := by omega
      have HE : Hid (st c k = st 0 k) := OA.out c HC.out
      go_wp2_with (first
        | (go_at_call 10; refine (raise_k HT.out hk).mono ?_; rintro e w1 ⟨rfl, hr, hb⟩; rw [HE.out] at hr; have H1 : Hid (Tab w1 w.heap.size (st 0 k) 0) := hr; replace HB : Hid (Below w.heap.size w w1) := HB.out.trans (one_below hb (Nat.le_refl _) HB.out.size); clear hr hb HT))
      go_roundg g
      case measure => omega
      case rel => exact ⟨i + 1, _, by omega, by go_num, Or.inr rfl, fun _ => rfl, H1, HB⟩
end Go.Proofs.Ytedheamenlnfkaa
