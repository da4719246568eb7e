/- 'LinesMasks' walked: a line that is masked, and not any more, is as it was: it calls, if it did, or if it was raised in between. -/
import Derived.Test.YtedheamenlnfkabSeen
namespace Go.Proofs.Ytedheamenlnfkab
open Go Go.RowKit
set_option maxRecDepth 100000
set_option linter.unusedVariables false
def pw (k : Nat) : Nat := 2 ^ k
theorem shl_pw {k : Nat} (hk : k < 8) : (2 : Int) ^ k % 256 = ((pw k : Nat) : Int) := shl_one hk
theorem not_pw {c k : Nat} (hc : c < 256) (hk : k < 8) : bits .andNot .u8 (c : Int) ((pw k : Nat) : Int) = ((cl c k : Nat) : Int) := u8_andNot_nat c _ hc (pow_lt hk)
/-- who is masked but for k, and k beside them: what is left of that without k -/
theorem cl_st_cl {m k : Nat} (hm : m < 256) (hk : k < 8) : cl (st (cl m k) k) k = cl m k := by
  refine low_eq cl_lt cl_lt fun j hj => ?_
  rw [cl_bit (st_lt cl_lt hk) hk, st_bit, cl_bit hm hk]
  by_cases e : j = k <;> simp [e]
/-- nobody below i is heard -/
def Mute (x m i : Nat) : Prop := ∀ j, j < i → x.testBit j = true → m.testBit j = true
theorem Mute.next {x m i : Nat} (hx : x < 256) (hm : m < 256) (h : Mute x m i) (hl : lw (bt x m) < 8) : Mute (cl x (lw (bt x m))) m (i + 1) := by
  intro j hj hb
  rw [cl_bit hx hl] at hb
  simp only [Bool.and_eq_true, Bool.not_eq_true', decide_eq_false_iff_not] at hb
  rcases Nat.lt_or_ge j i with a | a
  · exact h j a hb.1
  · have hy := lw_yes hl
    rw [bt_bit hx hm] at hy
    simp only [Bool.and_eq_true, Bool.not_eq_true'] at hy
    rcases Nat.lt_trichotomy j (lw (bt x m)) with b | b | b
    · have := lw_low b
      rw [bt_bit hx hm, hb.1] at this
      simpa using this
    · exact absurd b hb.2
    · have := h (lw (bt x m)) (by omega) hy.1
      rw [hy.2] at this; cases this
theorem Mute.none {x m : Nat} (hx : x < 256) (hm : m < 256) (h : Mute x m 8) : lw (bt x m) = 8 := next_none hx hm h
theorem mute_of {x m : Nat} (hx : x < 256) (hm : m < 256) (h : lw (bt x m) = 8) : Mute x m 8 := fun j hj hb => by
  have := lw_low (x := bt x m) (j := j) (by omega)
  rw [bt_bit hx hm, hb] at this
  simpa using this
/-- the line k is not among those that are heard -/
theorem heard_ne {x m k : Nat} (hx : x < 256) (hm : m < 256) (hk : m.testBit k = true) (hl : lw (bt x m) < 8) : lw (bt x m) ≠ k := by
  intro e
  have hy := lw_yes hl
  rw [bt_bit hx hm, e, hk] at hy
  simp at hy
theorem last_yes {x m k : Nat} (hx : x < 256) (hm : m < 256) (hk : k < 8) (h : Mute x (st (cl m k) k) 8) (hb : x.testBit k = true) : lw (bt x (cl m k)) = k := by
  refine next_yes hx cl_lt hk hb (by rw [cl_bit hm hk]; simp) fun j hj hj2 => ?_
  have := h j (by omega) hj2
  rw [st_bit] at this
  simp only [Bool.or_eq_true, decide_eq_true_eq] at this
  rcases this with a | a
  · exact a
  · omega
theorem last_no {x m k : Nat} (hx : x < 256) (hm : m < 256) (hk : k < 8) (h : Mute x (st (cl m k) k) 8) (hb : x.testBit k = false) : lw (bt x (cl m k)) = 8 := by
  refine next_none hx cl_lt fun j hj hj2 => ?_
  have := h j hj hj2
  rw [st_bit] at this
  simp only [Bool.or_eq_true, decide_eq_true_eq] at this
  rcases this with a | a
  · exact a
  · subst a; rw [hb] at hj2; cases hj2
set_option maxHeartbeats 8000000 in
theorem lmasks_any (ci mi li : Int) (raise : Bool) (h1 : 0 ≤ ci ∧ ci ≤ 255) (h2 : 0 ≤ mi ∧ mi ≤ 255) (h3 : 0 ≤ li ∧ li ≤ 255) (w : World) :
    Calls Try.prog 4 #[.agg #[.int .u8 ci, .int .u8 mi], .int .u8 li, .bool raise] w fun e w' => e = .returned (.bool true) ∧ Below w.heap.size w w' := by
  obtain ⟨c, rfl⟩ := Int.eq_ofNat_of_zero_le h1.1
  obtain ⟨m, rfl⟩ := Int.eq_ofNat_of_zero_le h2.1
  obtain ⟨l, rfl⟩ := Int.eq_ofNat_of_zero_le h3.1
  have hc : c < 256 := by omega
  have hm : m < 256 := by omega
  have e1 : Int.tmod (l : Int) 8 = ((l % 8 : Nat) : Int) := rfl
  have hk : l % 8 < 8 := by omega
  clear h1 h2 h3
  generalize l % 8 = k at *
  have hkI : (k : Int) < 8 := by omega
  have hA := alloc_at w (.cells #[.int .u8 (c : Nat), .int .u8 (m : Nat)] 33)
  have HW : Hid (Below w.heap.size w (w.alloc (.cells #[.int .u8 (c : Nat), .int .u8 (m : Nat)] 33))) := alloc_below w _
  have x0 : (w.alloc (.cells #[.int .u8 (c : Nat), .int .u8 (m : Nat)] 33)).cell? ⟨w.heap.size, 0, none⟩ = some (.int .u8 (c : Nat)) := by rw [cell_of hA]; rfl
  have x1 : (w.alloc (.cells #[.int .u8 (c : Nat), .int .u8 (m : Nat)] 33)).cell? ⟨w.heap.size, 1, none⟩ = some (.int .u8 (m : Nat)) := by rw [cell_of hA]; rfl
  clear hA
  have p1 := shl_pw hk
  have p1w : IntKind.u8.wrap ((2 : Int) ^ k) = ((pw k : Nat) : Int) := by rw [IntKind.wrap_u8]; exact shl_pw hk
  have p2 := not_pw hm hk
  have b1 := ask_bit hc k
  have EM : Hid (cl (st (cl m k) k) k = cl m k) := cl_st_cl hm hk
  have HMk : Hid ((st (cl m k) k).testBit k = true) := by show _ = _; rw [st_bit]; simp
  generalize pw k = pb at *
  obtain ⟨X0, HX0, hX0, HXk, hXk⟩ : ∃ X0 : Nat, Hid (raise = true → X0 = st c k) ∧ Hid (raise = false → X0 = c) ∧ Hid (X0.testBit k = (raise || c.testBit k)) ∧ X0 < 256 := by
    cases raise
    · exact ⟨c, fun h => (by cases h), fun _ => rfl, (by show _ = _; simp), hc⟩
    · exact ⟨st c k, fun _ => rfl, fun h => (by cases h), (by show _ = _; rw [st_bit]; simp), st_lt hc hk⟩
  have hS := set_any hc (cl_lt (c := m) (k := k)) (w.alloc (.cells #[.int .u8 (c : Nat), .int .u8 (m : Nat)] 33))
  obtain ⟨p, hp⟩ : ∃ p, (w.alloc (.cells #[.int .u8 (c : Nat), .int .u8 (m : Nat)] 33)).heap.size = p := ⟨_, rfl⟩
  have HL : Hid (w.heap.size ≤ p) := by have := HW.out.size; rw [hp] at this; exact this
  have HBW : Hid (∀ wx, Below p (w.alloc (.cells #[.int .u8 (c : Nat), .int .u8 (m : Nat)] 33)) wx → Below w.heap.size w wx) := fun wx h => HW.out.trans (h.mono HL.out)
  rw [hp] at hS
  clear hp HW
  go_enter Try.func4, Try.ntmps4
  cases raise
  all_goals
    go_wp2_with (first
      | (go_at_call 10; refine hS.mono ?_; rintro e w0 ⟨rfl, hr, hb⟩; have H0 : Hid (Tab w0 p c (cl m k)) := hr; have HB : Hid (Below w.heap.size w w0) := HBW.out _ hb; clear hr hb)
      | (go_at_call 11; refine (mask_k H0.out hk).mono ?_; rintro e w1 ⟨rfl, hr, hb⟩; have H1 : Hid (Tab w1 p c (st (cl m k) k)) := hr; replace HB : Hid (Below w.heap.size w w1) := HB.out.trans (one_below hb HL.out HB.out.size); clear hr hb H0)
      | (go_at_call 7; refine (raise_k H1.out hk).mono ?_; rintro e w2 ⟨rfl, hr, hb⟩; have H2 : Hid (Tab w2 p (st c k) (st (cl m k) k)) := hr; replace HB : Hid (Below w.heap.size w w2) := HB.out.trans (one_below hb HL.out HB.out.size); clear hr hb H1))
  · have HT0 : Hid (Tab w1 p X0 (st (cl m k) k)) := by have := H1.out; rw [← hX0.out (by trivial)] at this; exact this
    clear H1
    clear HBW HX0 hX0 x0 x1 hS
    go_loopg [11] 8 (fun g s11 wx => ∃ i X : Nat, i + g = 8 ∧ s11 = .int .i64 i ∧ Hid (Tab wx p X (st (cl m k) k)) ∧ Hid (Mute X (st (cl m k) k) i) ∧ Hid (X.testBit k = X0.testBit k) ∧ Hid (Below w.heap.size w wx))
    case atStart => exact ⟨0, X0, by omega, rfl, HT0, fun j hj => absurd hj (by omega), rfl, HB⟩
    case round =>
      clear HT0 HB
      obtain ⟨i, X, hig, rfl, HT, HN, HXX, HB⟩ := hrel
      cases gk with
      | zero =>
        obtain rfl : i = 8 := by omega
        have HE1 : Hid (lw (bt X (st (cl m k) k)) = 8) := HN.out.none HT.out.hc HT.out.hm
        by_cases qc : c.testBit k = true
        · rw [if_pos qc] at b1
          have hXb : Hid (X.testBit k = true) := by show _ = _; rw [HXX.out, HXk.out, qc]; rfl
          clear qc
          have HE2 : Hid (lw (bt X (cl m k)) = k) := last_yes HT.out.hc hm hk HN.out hXb.out
          go_wp2_with (first
            | (go_at_call 8; refine (next_e HT.out HE1.out).mono ?_; rintro e w1 ⟨rfl, hr, hb⟩; have H1 : Hid (Tab w1 p X (st (cl m k) k)) := hr; replace HB : Hid (Below w.heap.size w w1) := HB.out.trans (one_below hb HL.out HB.out.size); clear hr hb HT)
            | (go_at_call 11; refine (hear_k H1.out hk).mono ?_; rintro e w2 ⟨rfl, hr, hb⟩; rw [EM.out] at hr; have H2 : Hid (Tab w2 p X (cl m k)) := hr; replace HB : Hid (Below w.heap.size w w2) := HB.out.trans (one_below hb HL.out HB.out.size); clear hr hb H1)
            | (go_at_call 8; refine (next_k H2.out HE2.out hk).mono ?_; rintro e w3 ⟨rfl, hr, hb⟩; have H3 : Hid (Tab w3 p (cl X k) (cl m k)) := hr; replace HB : Hid (Below w.heap.size w w3) := HB.out.trans (one_below hb HL.out HB.out.size); clear hr hb H2)
            | (go_at_call 5; refine (alive_any _).mono ?_; rintro e w4 ⟨rfl, hb⟩; have H4 : Hid (Tab w4 p (cl X k) (cl m k)) := H3.out.below hb; replace HB : Hid (Below w.heap.size w w4) := HB.out.trans (hb.mono HB.out.size); clear hb H3))
          have H3d : Hid (Tab w3.drew p (cl X k) (cl m k)) := H3.out.below (below_drewN _ 1)
          have HBd : Hid (Below w.heap.size w w3.drew) := HB.out.trans ((below_drewN _ 1).mono HB.out.size)
          clear H3 HB
          go_region_held3 (fun w' => True) (trivial) (first
            | (go_at_call 5; refine (alive_any _).mono ?_; rintro e w4 ⟨rfl, hb⟩; have H4 : Hid (Tab w4 p (cl X k) (cl m k)) := H3d.out.below hb; have HB : Hid (Below w.heap.size w w4) := HBd.out.trans (hb.mono HBd.out.size); clear hb H3d)
            | (go_at_call 12; refine (masks_any H4.out).mono ?_; rintro e wx ⟨rfl, hwx⟩; obtain rfl := hwx.symm))
          all_goals
            go_wp2
            go_ret
            exact ⟨rfl, HB.out⟩
        · rw [if_neg qc] at b1
          have hXb : Hid (X.testBit k = false) := by show _ = _; rw [HXX.out, HXk.out]; simpa using qc
          clear qc
          have HE2 : Hid (lw (bt X (cl m k)) = 8) := last_no HT.out.hc hm hk HN.out hXb.out
          go_wp2_with (first
            | (go_at_call 8; refine (next_e HT.out HE1.out).mono ?_; rintro e w1 ⟨rfl, hr, hb⟩; have H1 : Hid (Tab w1 p X (st (cl m k) k)) := hr; replace HB : Hid (Below w.heap.size w w1) := HB.out.trans (one_below hb HL.out HB.out.size); clear hr hb HT)
            | (go_at_call 11; refine (hear_k H1.out hk).mono ?_; rintro e w2 ⟨rfl, hr, hb⟩; rw [EM.out] at hr; have H2 : Hid (Tab w2 p X (cl m k)) := hr; replace HB : Hid (Below w.heap.size w w2) := HB.out.trans (one_below hb HL.out HB.out.size); clear hr hb H1)
            | (go_at_call 8; refine (next_e H2.out HE2.out).mono ?_; rintro e w3 ⟨rfl, hr, hb⟩; have H3 : Hid (Tab w3 p X (cl m k)) := hr; replace HB : Hid (Below w.heap.size w w3) := HB.out.trans (one_below hb HL.out HB.out.size); clear hr hb H2)
            | (go_at_call 5; refine (alive_any _).mono ?_; rintro e w4 ⟨rfl, hb⟩; have H4 : Hid (Tab w4 p X (cl m k)) := H3.out.below hb; replace HB : Hid (Below w.heap.size w w4) := HB.out.trans (hb.mono HB.out.size); clear hb H3))
          go_ret
          exact ⟨rfl, HB.out⟩
      | succ g =>
        have hiI : (i : Int) < 8 := by omega
        by_cases q : lw (bt X (st (cl m k) k)) < 8
        · have HN2 : Hid (Mute (cl X (lw (bt X (st (cl m k) k)))) (st (cl m k) k) (i + 1)) := HN.out.next HT.out.hc HT.out.hm q
          have hne : lw (bt X (st (cl m k) k)) ≠ k := heard_ne HT.out.hc HT.out.hm HMk.out q
          have HX2 : Hid ((cl X (lw (bt X (st (cl m k) k)))).testBit k = X0.testBit k) := by show _ = _; rw [cl_bit HT.out.hc q, HXX.out, decide_eq_false (Ne.symm hne)]; simp
          have HQ : Hid (lw (bt X (st (cl m k) k)) = lw (bt X (st (cl m k) k))) := rfl
          obtain ⟨y, hy⟩ : ∃ y, lw (bt X (st (cl m k) k)) = y := ⟨_, rfl⟩
          rw [hy] at q hne HN2 HX2
          have HY : Hid (lw (bt X (st (cl m k) k)) = y) := hy
          have hyk : ((y : Int) == (k : Int)) = false := by simp; omega
          clear HN HXX HQ hne hy
          go_wp2_with (first
            | (go_at_call 8; refine (next_k HT.out HY.out q).mono ?_; rintro e w1 ⟨rfl, hr, hb⟩; have H1 : Hid (Tab w1 p (cl X y) (st (cl m k) k)) := hr; replace HB : Hid (Below w.heap.size w w1) := HB.out.trans (one_below hb HL.out HB.out.size); clear hr hb HT))
          go_roundg g
          case measure => omega
          case rel => exact ⟨i + 1, _, by omega, by go_num, H1, HN2, HX2, HB⟩
        · have hz : lw (bt X (st (cl m k) k)) = 8 := by have := lw_le (bt X (st (cl m k) k)); omega
          have HZ : Hid (lw (bt X (st (cl m k) k)) = 8) := hz
          replace HN : Hid (Mute X (st (cl m k) k) 8) := mute_of HT.out.hc HT.out.hm hz
          clear hz q
          have HE1 : Hid (lw (bt X (st (cl m k) k)) = 8) := HN.out.none HT.out.hc HT.out.hm
          by_cases qc : c.testBit k = true
          · rw [if_pos qc] at b1
            have hXb : Hid (X.testBit k = true) := by show _ = _; rw [HXX.out, HXk.out, qc]; rfl
            clear qc
            have HE2 : Hid (lw (bt X (cl m k)) = k) := last_yes HT.out.hc hm hk HN.out hXb.out
            go_wp2_with (first
              | (go_at_call 8; refine (next_e HT.out HZ.out).mono ?_; rintro e w9 ⟨rfl, hr, hb⟩; replace HB : Hid (Below w.heap.size w w9) := HB.out.trans (one_below hb HL.out HB.out.size); have HT9 : Hid (Tab w9 p X (st (cl m k) k)) := hr; clear hr hb HT HZ)
              | (go_at_call 8; refine (next_e HT9.out HE1.out).mono ?_; rintro e w1 ⟨rfl, hr, hb⟩; have H1 : Hid (Tab w1 p X (st (cl m k) k)) := hr; replace HB : Hid (Below w.heap.size w w1) := HB.out.trans (one_below hb HL.out HB.out.size); clear hr hb HT9)
              | (go_at_call 11; refine (hear_k H1.out hk).mono ?_; rintro e w2 ⟨rfl, hr, hb⟩; rw [EM.out] at hr; have H2 : Hid (Tab w2 p X (cl m k)) := hr; replace HB : Hid (Below w.heap.size w w2) := HB.out.trans (one_below hb HL.out HB.out.size); clear hr hb H1)
              | (go_at_call 8; refine (next_k H2.out HE2.out hk).mono ?_; rintro e w3 ⟨rfl, hr, hb⟩; have H3 : Hid (Tab w3 p (cl X k) (cl m k)) := hr; replace HB : Hid (Below w.heap.size w w3) := HB.out.trans (one_below hb HL.out HB.out.size); clear hr hb H2)
              | (go_at_call 5; refine (alive_any _).mono ?_; rintro e w4 ⟨rfl, hb⟩; have H4 : Hid (Tab w4 p (cl X k) (cl m k)) := H3.out.below hb; replace HB : Hid (Below w.heap.size w w4) := HB.out.trans (hb.mono HB.out.size); clear hb H3))
            have H3d : Hid (Tab w3.drew p (cl X k) (cl m k)) := H3.out.below (below_drewN _ 1)
            have HBd : Hid (Below w.heap.size w w3.drew) := HB.out.trans ((below_drewN _ 1).mono HB.out.size)
            clear H3 HB
            go_region_held3 (fun w' => True) (trivial) (first
              | (go_at_call 5; refine (alive_any _).mono ?_; rintro e w4 ⟨rfl, hb⟩; have H4 : Hid (Tab w4 p (cl X k) (cl m k)) := H3d.out.below hb; have HB : Hid (Below w.heap.size w w4) := HBd.out.trans (hb.mono HBd.out.size); clear hb H3d)
              | (go_at_call 12; refine (masks_any H4.out).mono ?_; rintro e wx ⟨rfl, hwx⟩; obtain rfl := hwx.symm))
            all_goals
              go_wp2
              go_ret
              exact ⟨rfl, HB.out⟩
          · rw [if_neg qc] at b1
            have hXb : Hid (X.testBit k = false) := by show _ = _; rw [HXX.out, HXk.out]; simpa using qc
            clear qc
            have HE2 : Hid (lw (bt X (cl m k)) = 8) := last_no HT.out.hc hm hk HN.out hXb.out
            go_wp2_with (first
              | (go_at_call 8; refine (next_e HT.out HZ.out).mono ?_; rintro e w9 ⟨rfl, hr, hb⟩; replace HB : Hid (Below w.heap.size w w9) := HB.out.trans (one_below hb HL.out HB.out.size); have HT9 : Hid (Tab w9 p X (st (cl m k) k)) := hr; clear hr hb HT HZ)
              | (go_at_call 8; refine (next_e HT9.out HE1.out).mono ?_; rintro e w1 ⟨rfl, hr, hb⟩; have H1 : Hid (Tab w1 p X (st (cl m k) k)) := hr; replace HB : Hid (Below w.heap.size w w1) := HB.out.trans (one_below hb HL.out HB.out.size); clear hr hb HT9)
              | (go_at_call 11; refine (hear_k H1.out hk).mono ?_; rintro e w2 ⟨rfl, hr, hb⟩; rw [EM.out] at hr; have H2 : Hid (Tab w2 p X (cl m k)) := hr; replace HB : Hid (Below w.heap.size w w2) := HB.out.trans (one_below hb HL.out HB.out.size); clear hr hb H1)
              | (go_at_call 8; refine (next_e H2.out HE2.out).mono ?_; rintro e w3 ⟨rfl, hr, hb⟩; have H3 : Hid (Tab w3 p X (cl m k)) := hr; replace HB : Hid (Below w.heap.size w w3) := HB.out.trans (one_below hb HL.out HB.out.size); clear hr hb H2)
              | (go_at_call 5; refine (alive_any _).mono ?_; rintro e w4 ⟨rfl, hb⟩; have H4 : Hid (Tab w4 p X (cl m k)) := H3.out.below hb; replace HB : Hid (Below w.heap.size w w4) := HB.out.trans (hb.mono HB.out.size); clear hb H3))
            go_ret
            exact ⟨rfl, HB.out⟩
  · have HT0 : Hid (Tab w2 p X0 (st (cl m k) k)) := by have := H2.out; rw [← HX0.out (by trivial)] at this; exact this
    clear H2
    clear HBW HX0 hX0 x0 x1 hS
    go_loopg [11] 8 (fun g s11 wx => ∃ i X : Nat, i + g = 8 ∧ s11 = .int .i64 i ∧ Hid (Tab wx p X (st (cl m k) k)) ∧ Hid (Mute X (st (cl m k) k) i) ∧ Hid (X.testBit k = X0.testBit k) ∧ Hid (Below w.heap.size w wx))
    case atStart => exact ⟨0, X0, by omega, rfl, HT0, fun j hj => absurd hj (by omega), rfl, HB⟩
    case round =>
      clear HT0 HB
      obtain ⟨i, X, hig, rfl, HT, HN, HXX, HB⟩ := hrel
      cases gk with
      | zero =>
        obtain rfl : i = 8 := by omega
        have HE1 : Hid (lw (bt X (st (cl m k) k)) = 8) := HN.out.none HT.out.hc HT.out.hm
        have hXb : Hid (X.testBit k = true) := by show _ = _; rw [HXX.out, HXk.out]; rfl
        have HE2 : Hid (lw (bt X (cl m k)) = k) := last_yes HT.out.hc hm hk HN.out hXb.out
        go_wp2_with (first
          | (go_at_call 8; refine (next_e HT.out HE1.out).mono ?_; rintro e w1 ⟨rfl, hr, hb⟩; have H1 : Hid (Tab w1 p X (st (cl m k) k)) := hr; replace HB : Hid (Below w.heap.size w w1) := HB.out.trans (one_below hb HL.out HB.out.size); clear hr hb HT)
          | (go_at_call 11; refine (hear_k H1.out hk).mono ?_; rintro e w2 ⟨rfl, hr, hb⟩; rw [EM.out] at hr; have H2 : Hid (Tab w2 p X (cl m k)) := hr; replace HB : Hid (Below w.heap.size w w2) := HB.out.trans (one_below hb HL.out HB.out.size); clear hr hb H1)
          | (go_at_call 8; refine (next_k H2.out HE2.out hk).mono ?_; rintro e w3 ⟨rfl, hr, hb⟩; have H3 : Hid (Tab w3 p (cl X k) (cl m k)) := hr; replace HB : Hid (Below w.heap.size w w3) := HB.out.trans (one_below hb HL.out HB.out.size); clear hr hb H2)
          | (go_at_call 5; refine (alive_any _).mono ?_; rintro e w4 ⟨rfl, hb⟩; have H4 : Hid (Tab w4 p (cl X k) (cl m k)) := H3.out.below hb; replace HB : Hid (Below w.heap.size w w4) := HB.out.trans (hb.mono HB.out.size); clear hb H3))
        have H3d : Hid (Tab w3.drew p (cl X k) (cl m k)) := H3.out.below (below_drewN _ 1)
        have HBd : Hid (Below w.heap.size w w3.drew) := HB.out.trans ((below_drewN _ 1).mono HB.out.size)
        clear H3 HB
        go_region_held3 (fun w' => True) (trivial) (first
          | (go_at_call 5; refine (alive_any _).mono ?_; rintro e w4 ⟨rfl, hb⟩; have H4 : Hid (Tab w4 p (cl X k) (cl m k)) := H3d.out.below hb; have HB : Hid (Below w.heap.size w w4) := HBd.out.trans (hb.mono HBd.out.size); clear hb H3d)
          | (go_at_call 12; refine (masks_any H4.out).mono ?_; rintro e wx ⟨rfl, hwx⟩; obtain rfl := hwx.symm))
        all_goals
          go_wp2
          go_ret
          exact ⟨rfl, HB.out⟩
      | succ g =>
        have hiI : (i : Int) < 8 := by omega
        by_cases q : lw (bt X (st (cl m k) k)) < 8
        · have HN2 : Hid (Mute (cl X (lw (bt X (st (cl m k) k)))) (st (cl m k) k) (i + 1)) := HN.out.next HT.out.hc HT.out.hm q
          have hne : lw (bt X (st (cl m k) k)) ≠ k := heard_ne HT.out.hc HT.out.hm HMk.out q
          have HX2 : Hid ((cl X (lw (bt X (st (cl m k) k)))).testBit k = X0.testBit k) := by show _ = _; rw [cl_bit HT.out.hc q, HXX.out, decide_eq_false (Ne.symm hne)]; simp
          have HQ : Hid (lw (bt X (st (cl m k) k)) = lw (bt X (st (cl m k) k))) := rfl
          obtain ⟨y, hy⟩ : ∃ y, lw (bt X (st (cl m k) k)) = y := ⟨_, rfl⟩
          rw [hy] at q hne HN2 HX2
          have HY : Hid (lw (bt X (st (cl m k) k)) = y) := hy
          have hyk : ((y : Int) == (k : Int)) = false := by simp; omega
          clear HN HXX HQ hne hy
          go_wp2_with (first
            | (go_at_call 8; refine (next_k HT.out HY.out q).mono ?_; rintro e w1 ⟨rfl, hr, hb⟩; have H1 : Hid (Tab w1 p (cl X y) (st (cl m k) k)) := hr; replace HB : Hid (Below w.heap.size w w1) := HB.out.trans (one_below hb HL.out HB.out.size); clear hr hb HT))
          go_roundg g
          case measure => omega
          case rel => exact ⟨i + 1, _, by omega, by go_num, H1, HN2, HX2, HB⟩
        · have hz : lw (bt X (st (cl m k) k)) = 8 := by have := lw_le (bt X (st (cl m k) k)); omega
          have HZ : Hid (lw (bt X (st (cl m k) k)) = 8) := hz
          replace HN : Hid (Mute X (st (cl m k) k) 8) := mute_of HT.out.hc HT.out.hm hz
          clear hz q
          have HE1 : Hid (lw (bt X (st (cl m k) k)) = 8) := HN.out.none HT.out.hc HT.out.hm
          have hXb : Hid (X.testBit k = true) := by show _ = _; rw [HXX.out, HXk.out]; rfl
          have HE2 : Hid (lw (bt X (cl m k)) = k) := last_yes HT.out.hc hm hk HN.out hXb.out
          go_wp2_with (first
            | (go_at_call 8; refine (next_e HT.out HZ.out).mono ?_; rintro e w9 ⟨rfl, hr, hb⟩; replace HB : Hid (Below w.heap.size w w9) := HB.out.trans (one_below hb HL.out HB.out.size); have HT9 : Hid (Tab w9 p X (st (cl m k) k)) := hr; clear hr hb HT HZ)
            | (go_at_call 8; refine (next_e HT9.out HE1.out).mono ?_; rintro e w1 ⟨rfl, hr, hb⟩; have H1 : Hid (Tab w1 p X (st (cl m k) k)) := hr; replace HB : Hid (Below w.heap.size w w1) := HB.out.trans (one_below hb HL.out HB.out.size); clear hr hb HT9)
            | (go_at_call 11; refine (hear_k H1.out hk).mono ?_; rintro e w2 ⟨rfl, hr, hb⟩; rw [EM.out] at hr; have H2 : Hid (Tab w2 p X (cl m k)) := hr; replace HB : Hid (Below w.heap.size w w2) := HB.out.trans (one_below hb HL.out HB.out.size); clear hr hb H1)
            | (go_at_call 8; refine (next_k H2.out HE2.out hk).mono ?_; rintro e w3 ⟨rfl, hr, hb⟩; have H3 : Hid (Tab w3 p (cl X k) (cl m k)) := hr; replace HB : Hid (Below w.heap.size w w3) := HB.out.trans (one_below hb HL.out HB.out.size); clear hr hb H2)
            | (go_at_call 5; refine (alive_any _).mono ?_; rintro e w4 ⟨rfl, hb⟩; have H4 : Hid (Tab w4 p (cl X k) (cl m k)) := H3.out.below hb; replace HB : Hid (Below w.heap.size w w4) := HB.out.trans (hb.mono HB.out.size); clear hb H3))
          have H3d : Hid (Tab w3.drew p (cl X k) (cl m k)) := H3.out.below (below_drewN _ 1)
          have HBd : Hid (Below w.heap.size w w3.drew) := HB.out.trans ((below_drewN _ 1).mono HB.out.size)
          clear H3 HB
          go_region_held3 (fun w' => True) (trivial) (first
            | (go_at_call 5; refine (alive_any _).mono ?_; rintro e w4 ⟨rfl, hb⟩; have H4 : Hid (Tab w4 p (cl X k) (cl m k)) := H3d.out.below hb; have HB : Hid (Below w.heap.size w w4) := HBd.out.trans (hb.mono HBd.out.size); clear hb H3d)
            | (go_at_call 12; refine (masks_any H4.out).mono ?_; rintro e wx ⟨rfl, hwx⟩; obtain rfl := hwx.symm))
          all_goals
            go_wp2
            go_ret
            exact ⟨rfl, HB.out⟩
end Go.Proofs.Ytedheamenlnfkab
