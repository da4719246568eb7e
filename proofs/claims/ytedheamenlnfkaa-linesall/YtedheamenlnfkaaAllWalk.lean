/- 'LinesAll' walked: of lines that call, and are not masked, each is told once, rising; those that are masked call on, and are told when they are not masked any more. -/
import Derived.Test.YtedheamenlnfkaaSeen
namespace Go.Proofs.Ytedheamenlnfkaa
open Go Go.RowKit
set_option maxRecDepth 100000
set_option linter.unusedVariables false
/-- who calls still, in the first turn and in the second one, when the lines below i were asked for -/
def ca0 (c m i : Nat) : Nat := p8 fun k => c.testBit k && (m.testBit k || decide (i ≤ k))
def ca1 (c m i : Nat) : Nat := p8 fun k => c.testBit k && (m.testBit k && decide (i ≤ k))
theorem ca0_lt (c m i : Nat) : ca0 c m i < 256 := p8_lt _
theorem ca1_lt (c m i : Nat) : ca1 c m i < 256 := p8_lt _
theorem ca0_bit (c m i j : Nat) : (ca0 c m i).testBit j = (decide (j < 8) && (c.testBit j && (m.testBit j || decide (i ≤ j)))) := p8_bit _ j
theorem ca1_bit (c m i j : Nat) : (ca1 c m i).testBit j = (decide (j < 8) && (c.testBit j && (m.testBit j && decide (i ≤ j)))) := p8_bit _ j
theorem ca0_0 {c : Nat} (m : Nat) (h : c < 256) : ca0 c m 0 = c := p8_is h _ fun k hk => by simp
theorem ca0_8 (c m : Nat) : ca0 c m 8 = ca1 c m 0 := low_eq (ca0_lt _ _ _) (ca1_lt _ _ _) fun k hk => by
  rw [ca0_bit, ca1_bit, decide_eq_false (show ¬ 8 ≤ k by omega), decide_eq_true (Nat.zero_le k)]
  simp
theorem ca0_and {c m : Nat} (hc : c < 256) (hm : m < 256) : bits .and .u8 (c : Int) (m : Int) = ((ca1 c m 0 : Nat) : Int) := by
  rw [u8_and_nat c m hc hm]
  congr 1
  refine low_eq (Nat.and_lt_two_pow (n := 8) _ hm) (ca1_lt _ _ _) fun k hk => ?_
  rw [Nat.testBit_and, ca1_bit]
  simp [hk]
theorem ca1_8 (c m : Nat) : ca1 c m 8 = 0 := low_eq (ca1_lt _ _ _) (by decide) fun k hk => by
  rw [ca1_bit, zero_bit, decide_eq_false (show ¬ 8 ≤ k by omega)]
  simp
theorem ca0_yes {c m i : Nat} (hm : m < 256) (hi : i < 8) (h1 : c.testBit i = true) (h2 : m.testBit i = false) : lw (bt (ca0 c m i) m) = i ∧ cl (ca0 c m i) i = ca0 c m (i + 1) := by
  constructor
  · refine next_yes (ca0_lt _ _ _) hm hi (by rw [ca0_bit, h1, h2]; simp [hi]) h2 fun j hj h => ?_
    rw [ca0_bit, decide_eq_false (show ¬ i ≤ j by omega)] at h
    simp at h
    exact h.2.2
  · refine low_eq cl_lt (ca0_lt _ _ _) fun j hj => ?_
    rw [cl_bit (ca0_lt _ _ _) hi, ca0_bit, ca0_bit]
    by_cases e : j = i
    · subst e; simp [h2]
    · rw [show decide (i + 1 ≤ j) = decide (i ≤ j) from decide_eq_decide.2 (by omega)]; simp [e]
theorem ca0_no {c m i : Nat} (h : c.testBit i = false ∨ m.testBit i = true) : ca0 c m i = ca0 c m (i + 1) := by
  refine low_eq (ca0_lt _ _ _) (ca0_lt _ _ _) fun j hj => ?_
  rw [ca0_bit, ca0_bit]
  by_cases e : j = i
  · subst e
    rcases h with h | h <;> simp [h]
  · rw [show decide (i + 1 ≤ j) = decide (i ≤ j) from decide_eq_decide.2 (by omega)]
theorem ca0_end {c m : Nat} (hm : m < 256) : lw (bt (ca0 c m 8) m) = 8 := next_none (ca0_lt _ _ _) hm fun j hj h => by
  rw [ca0_bit, decide_eq_false (show ¬ 8 ≤ j by omega)] at h
  simp at h
  exact h.2.2
theorem ca1_yes {c m i : Nat} (hi : i < 8) (h1 : c.testBit i = true) (h2 : m.testBit i = true) : lw (bt (ca1 c m i) 0) = i ∧ cl (ca1 c m i) i = ca1 c m (i + 1) := by
  constructor
  · refine next_yes (ca1_lt _ _ _) (by decide) hi (by rw [ca1_bit, h1, h2]; simp [hi]) (zero_bit i) fun j hj h => ?_
    rw [ca1_bit, decide_eq_false (show ¬ i ≤ j by omega)] at h
    simp at h
  · refine low_eq cl_lt (ca1_lt _ _ _) fun j hj => ?_
    rw [cl_bit (ca1_lt _ _ _) hi, ca1_bit, ca1_bit]
    by_cases e : j = i
    · subst e; simp
    · rw [show decide (i + 1 ≤ j) = decide (i ≤ j) from decide_eq_decide.2 (by omega)]; simp [e]
theorem ca1_no {c m i : Nat} (h : c.testBit i = false ∨ m.testBit i = false) : ca1 c m i = ca1 c m (i + 1) := by
  refine low_eq (ca1_lt _ _ _) (ca1_lt _ _ _) fun j hj => ?_
  rw [ca1_bit, ca1_bit]
  by_cases e : j = i
  · subst e
    rcases h with h | h <;> simp [h]
  · rw [show decide (i + 1 ≤ j) = decide (i ≤ j) from decide_eq_decide.2 (by omega)]
theorem ca1_end {c m : Nat} : lw (bt (ca1 c m 8) 0) = 8 := by rw [ca1_8]; decide
theorem up_cl {m i : Nat} (hi : i < 8) : cl (up m i) i = up m (i + 1) := by
  refine low_eq cl_lt (up_lt _ _) fun j hj => ?_
  rw [cl_bit (up_lt _ _) hi, up_bit, up_bit]
  by_cases e : j = i
  · subst e; simp [show ¬ j + 1 ≤ j by omega]
  · rw [show decide (i + 1 ≤ j) = decide (i ≤ j) from decide_eq_decide.2 (by omega)]; simp [e]
set_option maxHeartbeats 8000000 in
theorem all_any (ci mi : Int) (h1 : 0 ≤ ci ∧ ci ≤ 255) (h2 : 0 ≤ mi ∧ mi ≤ 255) (w : World) :
    Calls Try.prog 5 #[.int .u8 ci, .int .u8 mi] w fun e w' => e = .returned (.bool true) ∧ Below w.heap.size w w' := by
  obtain ⟨c, rfl⟩ := Int.eq_ofNat_of_zero_le h1.1
  obtain ⟨m, rfl⟩ := Int.eq_ofNat_of_zero_le h2.1
  have hc : c < 256 := by omega
  have hm : m < 256 := by omega
  have hS := set_any hc hm w
  clear h1 h2
  go_enter Try.func5, Try.ntmps5
  go_wp2_with (first
    | (go_at_call 20; refine hS.mono ?_; rintro e w0 ⟨rfl, hr, hb⟩; have H0 : Hid (Tab w0 w.heap.size c m) := hr; have HB0 : Hid (Below w.heap.size w w0) := hb; clear hr hb)
    | (go_at_call 16; refine (calls_any H0.out).mono ?_; rintro e wx ⟨rfl, hwx⟩; obtain rfl := hwx.symm)
    | (go_at_call 18; refine (masks_any H0.out).mono ?_; rintro e wx ⟨rfl, hwx⟩; obtain rfl := hwx.symm))
  clear hS
  go_loopg [6] 2 (fun g s6 wx => ∃ t : Nat, t + g = 2 ∧ s6 = .int .i64 t ∧ Hid (t = 0 → Tab wx w.heap.size c m) ∧ Hid (t = 1 → Tab wx w.heap.size (ca1 c m 0) 0) ∧ Hid (t = 2 → Tab wx w.heap.size 0 0) ∧ Hid (Below w.heap.size w wx))
  case atStart => exact ⟨0, by omega, rfl, fun _ => H0.out, fun h => absurd h (by decide), fun h => absurd h (by decide), HB0⟩
  case round =>
    clear H0 HB0
    obtain ⟨t, htg, rfl, HA, HA1, HA2, HB⟩ := hrel
    match gk, htg with
    | 0, htg =>
      obtain rfl : t = 2 := by omega
      have HT : Hid (Tab wr w.heap.size 0 0) := HA2.out rfl
      clear HA HA1 HA2
      go_wp2_with (first
        | (go_at_call 21; refine (alive_any _).mono ?_; rintro e w3 ⟨rfl, hb⟩; have H3 : Hid (Tab w3 w.heap.size 0 0) := HT.out.below hb; replace HB : Hid (Below w.heap.size w w3) := HB.out.trans (hb.mono HB.out.size); clear hb HT)
        | (go_at_call 16; refine (ca_is H3.out).mono ?_; rintro e wx ⟨rfl, hwx⟩; obtain rfl := hwx.symm)
        | (go_at_call 18; refine (ms_is H3.out).mono ?_; rintro e wx ⟨rfl, hwx⟩; obtain rfl := hwx.symm))
      go_ret
      exact ⟨rfl, HB.out⟩
    | 1, htg =>
      obtain rfl : t = 1 := by omega
      have HT : Hid (Tab wr w.heap.size (ca1 c m 0) 0) := HA1.out rfl
      have HB1 : Hid (Below w.heap.size w wr) := HB
      clear HA HA1 HA2 HB
      go_wp2
      go_loopg [7] 8 (fun g s7 wx => ∃ i : Nat, i + g = 8 ∧ s7 = .int .i64 i ∧ Hid (Tab wx w.heap.size (ca1 c m i) 0) ∧ Hid (Below w.heap.size w wx))
      case atStart => exact ⟨0, by omega, rfl, HT, HB1⟩
      case round =>
        clear HT HB1
        obtain ⟨i, hig, rfl, HT, HB⟩ := hrel
        cases gk with
        | zero =>
          obtain rfl : i = 8 := by omega
          have HE : Hid (lw (bt (ca1 c m 8) 0) = 8) := ca1_end
          have HF : Hid (ca1 c m 8 = 0) := ca1_8 c m
          go_wp2_with (first
            | (go_at_call 14; refine (next_e HT.out HE.out).mono ?_; rintro e w1 ⟨rfl, hr, hb⟩; rw [HF.out] at hr; have H1 : Hid (Tab w1 w.heap.size (0) 0) := hr; replace HB : Hid (Below w.heap.size w w1) := HB.out.trans (one_below hb (Nat.le_refl _) HB.out.size); clear hr hb HT))
          go_loopg [13] 8 (fun g s13 wx => ∃ i : Nat, i + g = 8 ∧ s13 = .int .i64 i ∧ Hid (Tab wx w.heap.size (0) (up 0 i)) ∧ Hid (Below w.heap.size w wx))
          case atStart => exact ⟨0, by omega, rfl, by show Tab _ _ _ _; rw [up_0 (by decide)]; exact H1.out, HB⟩
          case round =>
            clear H1 HB
            obtain ⟨j, hjg, rfl, HT, HB⟩ := hrel
            cases gk with
            | zero =>
              obtain rfl : j = 8 := by omega
              have H8 : Hid (Tab wr w.heap.size (0) 0) := by have := HT.out; rw [up_8] at this; exact this
              go_wp2
              go_roundg 0
              case measure => omega
              case rel => exact ⟨2, by omega, by go_num, fun h => absurd h (by decide), fun h => absurd h (by decide), fun _ => H8.out, HB⟩
            | succ g =>
              have hj : j < 8 := by omega
              have hjI : (j : Int) < 8 := by omega
              have HU : Hid (cl (up 0 j) j = up 0 (j + 1)) := up_cl hj
              go_wp2_with (first
                | (go_at_call 12; refine (hear_k HT.out hj).mono ?_; rintro e w1 ⟨rfl, hr, hb⟩; rw [HU.out] at hr; have H1 : Hid (Tab w1 w.heap.size (0) (up 0 (j + 1))) := hr; replace HB : Hid (Below w.heap.size w w1) := HB.out.trans (one_below hb (Nat.le_refl _) HB.out.size); clear hr hb HT))
              go_roundg g
              case measure => omega
              case rel => exact ⟨j + 1, by omega, by go_num, H1, HB⟩
        | succ g =>
          have hi : i < 8 := by omega
          have hiI : (i : Int) < 8 := by omega
          have b1 := ask_bit hc i
          have b2 := ask_bit hm i
          by_cases qc : c.testBit i = true
          · rw [if_pos qc] at b1
            by_cases qm : m.testBit i = true
            · rw [if_pos qm] at b2
              have HK : Hid (lw (bt (ca1 c m i) 0) = i ∧ cl (ca1 c m i) i = ca1 c m (i + 1)) := ca1_yes hi qc qm
              clear qc qm
              go_wp2_with (first
                | (go_at_call 14; refine (next_k HT.out HK.out.1 hi).mono ?_; rintro e w1 ⟨rfl, hr, hb⟩; rw [HK.out.2] at hr; have H1 : Hid (Tab w1 w.heap.size (ca1 c m (i + 1)) 0) := hr; replace HB : Hid (Below w.heap.size w w1) := HB.out.trans (one_below hb (Nat.le_refl _) HB.out.size); clear hr hb HT))
              go_roundg g
              case measure => omega
              case rel => exact ⟨i + 1, by omega, by go_num, H1, HB⟩
            · have qm2 : m.testBit i = false := by simpa using qm
              rw [qm2, if_neg (by decide)] at b2
              have HK : Hid (ca1 c m i = ca1 c m (i + 1)) := ca1_no (Or.inr qm2)
              rw [HK.out] at HT
              clear qc qm qm2
              go_wp2
              go_roundg g
              case measure => omega
              case rel => exact ⟨i + 1, by omega, by go_num, HT, HB⟩
          · rw [if_neg qc] at b1
            have HK : Hid (ca1 c m i = ca1 c m (i + 1)) := ca1_no (Or.inl (by simpa using qc))
            rw [HK.out] at HT
            clear qc
            by_cases qm : m.testBit i = true
            · rw [if_pos qm] at b2
              clear qm
              go_wp2
              go_roundg g
              case measure => omega
              case rel => exact ⟨i + 1, by omega, by go_num, HT, HB⟩
            · rw [if_neg qm] at b2
              clear qm
              go_wp2
              go_roundg g
              case measure => omega
              case rel => exact ⟨i + 1, by omega, by go_num, HT, HB⟩
    | 2, htg =>
      obtain rfl : t = 0 := by omega
      have HT : Hid (Tab wr w.heap.size (ca0 c m 0) m) := by have := HA.out rfl; show Tab _ _ _ _; rw [ca0_0 m hc]; exact this
      have HB1 : Hid (Below w.heap.size w wr) := HB
      clear HA HA1 HA2 HB
      go_wp2
      go_loopg [7] 8 (fun g s7 wx => ∃ i : Nat, i + g = 8 ∧ s7 = .int .i64 i ∧ Hid (Tab wx w.heap.size (ca0 c m i) m) ∧ Hid (Below w.heap.size w wx))
      case atStart => exact ⟨0, by omega, rfl, HT, HB1⟩
      case round =>
        clear HT HB1
        obtain ⟨i, hig, rfl, HT, HB⟩ := hrel
        cases gk with
        | zero =>
          obtain rfl : i = 8 := by omega
          have HE : Hid (lw (bt (ca0 c m 8) m) = 8) := ca0_end hm
          have HF : Hid (ca0 c m 8 = ca1 c m 0) := ca0_8 c m
          have hand := ca0_and hc hm
          go_wp2_with (first
            | (go_at_call 14; refine (next_e HT.out HE.out).mono ?_; rintro e w1 ⟨rfl, hr, hb⟩; rw [HF.out] at hr; have H1 : Hid (Tab w1 w.heap.size (ca1 c m 0) m) := hr; replace HB : Hid (Below w.heap.size w w1) := HB.out.trans (one_below hb (Nat.le_refl _) HB.out.size); clear hr hb HT)
            | (go_at_call 16; refine (calls_any H1.out).mono ?_; rintro e wx ⟨rfl, hwx⟩; obtain rfl := hwx.symm))
          go_loopg [13] 8 (fun g s13 wx => ∃ i : Nat, i + g = 8 ∧ s13 = .int .i64 i ∧ Hid (Tab wx w.heap.size (ca1 c m 0) (up m i)) ∧ Hid (Below w.heap.size w wx))
          case atStart => exact ⟨0, by omega, rfl, by show Tab _ _ _ _; rw [up_0 hm]; exact H1.out, HB⟩
          case round =>
            clear H1 HB
            obtain ⟨j, hjg, rfl, HT, HB⟩ := hrel
            cases gk with
            | zero =>
              obtain rfl : j = 8 := by omega
              have H8 : Hid (Tab wr w.heap.size (ca1 c m 0) 0) := by have := HT.out; rw [up_8] at this; exact this
              go_wp2
              go_roundg 1
              case measure => omega
              case rel => exact ⟨1, by omega, by go_num, fun h => absurd h (by decide), fun _ => H8.out, fun h => absurd h (by decide), HB⟩
            | succ g =>
              have hj : j < 8 := by omega
              have hjI : (j : Int) < 8 := by omega
              have HU : Hid (cl (up m j) j = up m (j + 1)) := up_cl hj
              go_wp2_with (first
                | (go_at_call 12; refine (hear_k HT.out hj).mono ?_; rintro e w1 ⟨rfl, hr, hb⟩; rw [HU.out] at hr; have H1 : Hid (Tab w1 w.heap.size (ca1 c m 0) (up m (j + 1))) := hr; replace HB : Hid (Below w.heap.size w w1) := HB.out.trans (one_below hb (Nat.le_refl _) HB.out.size); clear hr hb HT))
              go_roundg g
              case measure => omega
              case rel => exact ⟨j + 1, by omega, by go_num, H1, HB⟩
        | succ g =>
          have hi : i < 8 := by omega
          have hiI : (i : Int) < 8 := by omega
          have b1 := ask_bit hc i
          have b2 := ask_bit hm i
          by_cases qc : c.testBit i = true
          · rw [if_pos qc] at b1
            by_cases qm : m.testBit i = false
            · rw [qm, if_neg (by decide)] at b2
              have HK : Hid (lw (bt (ca0 c m i) m) = i ∧ cl (ca0 c m i) i = ca0 c m (i + 1)) := ca0_yes hm hi qc qm
              clear qc qm
              go_wp2_with (first
                | (go_at_call 14; refine (next_k HT.out HK.out.1 hi).mono ?_; rintro e w1 ⟨rfl, hr, hb⟩; rw [HK.out.2] at hr; have H1 : Hid (Tab w1 w.heap.size (ca0 c m (i + 1)) m) := hr; replace HB : Hid (Below w.heap.size w w1) := HB.out.trans (one_below hb (Nat.le_refl _) HB.out.size); clear hr hb HT))
              go_roundg g
              case measure => omega
              case rel => exact ⟨i + 1, by omega, by go_num, H1, HB⟩
            · have qm2 : m.testBit i = true := by simpa using qm
              rw [if_pos qm2] at b2
              have HK : Hid (ca0 c m i = ca0 c m (i + 1)) := ca0_no (Or.inr qm2)
              rw [HK.out] at HT
              clear qc qm qm2
              go_wp2
              go_roundg g
              case measure => omega
              case rel => exact ⟨i + 1, by omega, by go_num, HT, HB⟩
          · rw [if_neg qc] at b1
            have HK : Hid (ca0 c m i = ca0 c m (i + 1)) := ca0_no (Or.inl (by simpa using qc))
            rw [HK.out] at HT
            clear qc
            by_cases qm : m.testBit i = true
            · rw [if_pos qm] at b2
              clear qm
              go_wp2
              go_roundg g
              case measure => omega
              case rel => exact ⟨i + 1, by omega, by go_num, HT, HB⟩
            · rw [if_neg qm] at b2
              clear qm
              go_wp2
              go_roundg g
              case measure => omega
              case rel => exact ⟨i + 1, by omega, by go_num, HT, HB⟩
    | g + 3, htg => omega
end Go.Proofs.Ytedheamenlnfkaa
