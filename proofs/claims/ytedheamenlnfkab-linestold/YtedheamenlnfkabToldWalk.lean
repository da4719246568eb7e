/- 'LinesTold' walked: whatever lines call, in whatever order, they are told by their numbers; who calls in between takes its place. -/
import Derived.Test.YtedheamenlnfkabSeen
import Derived.Test.YtedheamenlnfkabArgs
namespace Go.Proofs.Ytedheamenlnfkab
open Go Go.RowKit
set_option maxRecDepth 100000
set_option linter.unusedVariables false
def pw (k : Nat) : Nat := 2 ^ k
theorem shl_pw {k : Nat} (hk : k < 8) : (2 : Int) ^ k % 256 = ((pw k : Nat) : Int) := shl_one hk
theorem pw_lt {k : Nat} (hk : k < 8) : pw k < 256 := pow_lt hk
theorem pw_pos (k : Nat) : 1 ≤ pw k := Nat.two_pow_pos k
theorem or_pw {c k : Nat} (hc : c < 256) (hk : k < 8) : bits .or .u8 (c : Int) ((pw k : Nat) : Int) = ((st c k : Nat) : Int) := u8_or_nat c _ hc (pow_lt hk)
theorem not_pw {c k : Nat} (hc : c < 256) (hk : k < 8) : bits .andNot .u8 (c : Int) ((pw k : Nat) : Int) = ((cl c k : Nat) : Int) := u8_andNot_nat c _ hc (pow_lt hk)
/-- nobody below the least one -/
theorem below_pw {c k : Nat} (hc : c < 256) (hk : k < 8) (hl : ∀ j, j < k → c.testBit j = false) : bits .and .u8 (c : Int) (((pw k : Nat) : Int) - 1) = 0 := by
  have h1 := pw_pos k
  have h2 := pw_lt hk
  rw [show ((pw k : Nat) : Int) - 1 = ((pw k - 1 : Nat) : Int) by omega, u8_and_nat c _ hc (by omega)]
  have e : c &&& (pw k - 1) = 0 := by
    unfold pw
    rw [Nat.and_two_pow_sub_one_eq_mod]
    apply bits_eq
    intro j
    rw [Nat.testBit_mod_two_pow, zero_bit]
    by_cases x : j < k
    · rw [hl j x]; simp
    · simp [x]
  rw [e]; rfl
theorem bt_zero {c : Nat} (hc : c < 256) : bt c 0 = c := low_eq bt_lt hc fun k hk => by rw [bt_bit hc (by decide), zero_bit]; simp
/-- how many of the first lines -/
def cn (c : Nat) : Nat → Nat
  | 0 => 0
  | n + 1 => cn c n + (if c.testBit n then 1 else 0)
theorem cn_same {a b : Nat} : ∀ {n : Nat}, (∀ j, j < n → a.testBit j = b.testBit j) → cn a n = cn b n
  | 0, _ => rfl
  | n + 1, h => by unfold cn; rw [cn_same (fun j hj => h j (by omega)), h n (by omega)]
theorem cn_cl {c k : Nat} (hc : c < 256) (hk : k < 8) (hb : c.testBit k = true) : ∀ n, cn (cl c k) n + (if k < n then 1 else 0) = cn c n
  | 0 => rfl
  | n + 1 => by
    have ih := cn_cl hc hk hb n
    show cn (cl c k) n + (if (cl c k).testBit n then 1 else 0) + (if k < n + 1 then 1 else 0) = cn c n + (if c.testBit n then 1 else 0)
    by_cases e : n = k
    · subst e
      have h1 : (cl c n).testBit n = false := by rw [cl_bit hc hk]; simp
      rw [if_neg (Nat.lt_irrefl _)] at ih
      rw [h1, hb]
      simp
      omega
    · have h1 : (cl c k).testBit n = c.testBit n := by rw [cl_bit hc hk]; simp [e]
      have h2 : (if k < n + 1 then 1 else 0) = (if k < n then 1 else 0) := by
        by_cases x : k < n
        · rw [if_pos x, if_pos (by omega)]
        · rw [if_neg x, if_neg (by omega)]
      rw [h1, h2]
      omega
theorem cn_st {c k : Nat} : ∀ n, cn (st c k) n ≤ cn c n + (if k < n then 1 else 0)
  | 0 => Nat.le_refl _
  | n + 1 => by
    have ih := cn_st (c := c) (k := k) n
    show cn (st c k) n + (if (st c k).testBit n then 1 else 0) ≤ cn c n + (if c.testBit n then 1 else 0) + (if k < n + 1 then 1 else 0)
    by_cases e : n = k
    · subst e
      have h1 : (st c n).testBit n = true := by rw [st_bit]; simp
      rw [if_neg (Nat.lt_irrefl _)] at ih
      rw [h1]
      simp
      omega
    · have h1 : (st c k).testBit n = c.testBit n := by rw [st_bit]; simp [e]
      have h2 : (if k < n + 1 then 1 else 0) = (if k < n then 1 else 0) := by
        by_cases x : k < n
        · rw [if_pos x, if_pos (by omega)]
        · rw [if_neg x, if_neg (by omega)]
      rw [h1, h2]
      omega
theorem cn_le (c : Nat) : ∀ n, cn c n ≤ n
  | 0 => Nat.le_refl _
  | n + 1 => by have := cn_le c n; unfold cn; split <;> omega
theorem cn_pos {c k : Nat} (hb : c.testBit k = true) : ∀ n, k < n → 1 ≤ cn c n
  | 0, h => by omega
  | n + 1, h => by
    unfold cn
    by_cases e : k = n
    · subst e; rw [hb]; simp
    · have := cn_pos hb n (by omega); omega
def one (f : Bool) : Nat := if f then 1 else 0
set_option maxHeartbeats 8000000 in
theorem told_any {w : World} {sp : Option Addr} {zs : List Int} (ha : BSrc w.heap.size w sp zs) (hma : zs.length ≤ maxLen) (cap : Nat) (mi : Int) (hmi : 0 ≤ mi ∧ mi ≤ 255) :
    Calls Try.prog 3 #[.slice sp zs.length cap, .int .u8 mi] w fun e w' => e = .returned (.bool true) ∧ Below w.heap.size w w' := by
  unfold maxLen at hma
  obtain ⟨t, rfl⟩ := Int.eq_ofNat_of_zero_le hmi.1
  have e1 : Int.tmod (t : Int) 8 = ((t % 8 : Nat) : Int) := rfl
  have hr : t % 8 < 8 := by omega
  clear hmi
  generalize t % 8 = r at *
  have hrI : (r : Int) < 8 := by omega
  obtain ⟨rb, q1, HO⟩ : ∃ rb : Nat, (2 : Int) ^ r % 256 = (rb : Int) ∧ Hid (∀ c : Nat, c < 256 → bits .or .u8 (c : Int) (rb : Int) = ((st c r : Nat) : Int)) := ⟨pw r, shl_pw hr, fun c hc => or_pw hc hr⟩
  obtain ⟨m, hm'⟩ : ∃ m, zs.length = m := ⟨_, rfl⟩
  rw [hm'] at hma ⊢
  have HM : Hid (zs.length = m) := hm'
  have HA : Hid (BSrc w.heap.size w sp zs) := ha
  clear hm' ha
  by_cases hbig : 20 < m
  · go_enter Try.func3, Try.ntmps3
    have HB0 : Hid (Below w.heap.size w w) := Below.refl _ _
    go_wp2_with (first
      | (go_at_call 5; refine (alive_any _).mono ?_; rintro e w1 ⟨rfl, hb⟩; have HB1 : Hid (Below w.heap.size w w1) := HB0.out.trans (hb.mono HB0.out.size); clear hb HB0)
      | (go_at_call 5; refine (alive_any _).mono ?_; rintro e w2 ⟨rfl, hb⟩; have HB2 : Hid (Below w.heap.size w w2) := HB1.out.trans (hb.mono HB1.out.size); clear hb HB1))
    go_ret
    exact ⟨rfl, HB2.out⟩
  · go_enter Try.func3, Try.ntmps3
    go_wp2_with (first
      | (go_at_call 5; refine (alive_any _).mono ?_; rintro e w1 ⟨rfl, hb⟩; have HB1 : Hid (Below w.heap.size w w1) := hb; clear hb)
      | (go_at_call 6; refine new_any.mono ?_; rintro e w2 ⟨rfl, hr2, hb⟩; have H2 : Hid (Tab w2 w1.heap.size 0 0) := hr2; have HL : Hid (w.heap.size ≤ w1.heap.size) := HB1.out.size; have HB2 : Hid (Below w.heap.size w w2) := HB1.out.trans (hb.mono HB1.out.size); clear hr2 hb HB1))
    generalize w1.heap.size = p at *
    go_loopg [6, 7] m (fun g s6 s7 wx => ∃ i c : Nat, i + g = m ∧ s6 = .int .u8 (c : Nat) ∧ s7 = .int .i64 i ∧ Hid (Tab wx p c 0) ∧ Hid (Below w.heap.size w wx))
    case atStart => exact ⟨0, 0, by omega, rfl, rfl, H2, HB2⟩
    case round =>
      clear H2 HB2
      obtain ⟨i, c, hig, rfl, rfl, HT, HB⟩ := hrel
      cases gk with
      | zero =>
        obtain rfl : i = m := by omega
        have hlt : ¬ ((i : Int) < i) := by omega
        go_wp2
        clear hlt
        go_loopg [6, 8] (cn c 8 + 1) (fun g s6 s8 wx => ∃ (c : Nat) (f : Bool), s6 = .int .u8 (c : Nat) ∧ s8 = .bool f ∧ Hid (cn c 8 + one f ≤ g) ∧ Hid (Tab wx p c 0) ∧ Hid (Below w.heap.size w wx))
        case atStart => exact ⟨c, true, rfl, rfl, Nat.le_refl _, HT, HB⟩
        case round =>
          clear HT HB
          obtain ⟨c, f, rfl, rfl, HG, HT, HB⟩ := hrel
          by_cases hz : c = 0
          · subst hz
            go_wp2_with (first
              | (go_at_call 8; refine (next_e HT.out (by decide)).mono ?_; rintro e w3 ⟨rfl, hr3, hb⟩; replace HB : Hid (Below w.heap.size w w3) := HB.out.trans (one_below hb HL.out HB.out.size); clear hr3 hb))
            go_ret
            exact ⟨rfl, HB.out⟩
          · have hc := HT.out.hc
            have hk : lw (bt c 0) < 8 := by
              have h1 := lw_le (bt c 0)
              have h2 := (lw_zero (x := bt c 0) bt_lt)
              rw [bt_zero hc] at h1 h2 ⊢
              rcases Nat.lt_or_ge (lw c) 8 with a | a
              · exact a
              · exact absurd (h2.1 (by omega)) hz
            obtain ⟨k, hk'⟩ : ∃ k, lw (bt c 0) = k := ⟨_, rfl⟩
            rw [hk'] at hk
            have HK : Hid (lw (bt c 0) = k) := hk'
            have hb1 : c.testBit k = true := by rw [← hk', bt_zero hc]; rw [bt_zero hc] at hk'; exact lw_yes (by omega)
            have hl1 : ∀ j, j < k → c.testBit j = false := fun j hj => lw_low (x := c) (by rw [bt_zero hc] at hk'; omega)
            have p0 := ask_bit hc k
            rw [if_pos hb1] at p0
            obtain ⟨kb, p1, p2, p3, p4, p5⟩ : ∃ kb : Nat, (2 : Int) ^ k % 256 = (kb : Int) ∧ bits .and .u8 (c : Int) ((kb : Int) - 1) = 0 ∧ bits .andNot .u8 (c : Int) (kb : Int) = ((cl c k : Nat) : Int) ∧ kb < 256 ∧ 1 ≤ kb :=
              ⟨pw k, shl_pw hk, below_pw hc hk hl1, not_pw hc hk, pw_lt hk, pw_pos k⟩
            have hkI : (k : Int) < 8 := by omega
            have hzI : ¬ ((c : Int) = 0) := by omega
            have HC : Hid (cn (cl c k) 8 + 1 = cn c 8) := by have := cn_cl hc hk hb1 8; rw [if_pos hk] at this; exact this
            have HP : Hid (1 ≤ cn c 8) := cn_pos hb1 8 hk
            have q2 := HO.out (cl c k) cl_lt
            clear hk' hb1 hl1
            cases gk with
            | zero => have := HG.out; have := HP.out; omega
            | succ g =>
              cases f
              · go_wp2_with (first
                  | (go_at_call 8; refine (next_k HT.out HK.out hk).mono ?_; rintro e w3 ⟨rfl, hr3, hb⟩; have H3 : Hid (Tab w3 p (cl c k) 0) := hr3; replace HB : Hid (Below w.heap.size w w3) := HB.out.trans (one_below hb HL.out HB.out.size); clear hr3 hb HT)
                  | (go_at_call 9; refine (calls_any H3.out).mono ?_; rintro e wx ⟨rfl, hwx⟩; obtain rfl := hwx.symm))
                go_roundg g
                case measure => omega
                case rel => exact ⟨_, false, rfl, rfl, (by have := HG.out; have := HC.out; have e3 : one true = 1 := rfl; have e4 : one false = 0 := rfl; show _ ≤ _; omega), H3, HB⟩
              · go_wp2_with (first
                  | (go_at_call 8; refine (next_k HT.out HK.out hk).mono ?_; rintro e w3 ⟨rfl, hr3, hb⟩; have H3 : Hid (Tab w3 p (cl c k) 0) := hr3; replace HB : Hid (Below w.heap.size w w3) := HB.out.trans (one_below hb HL.out HB.out.size); clear hr3 hb HT)
                  | (go_at_call 7; refine (raise_k H3.out hr).mono ?_; rintro e w4 ⟨rfl, hr3, hb⟩; have H4 : Hid (Tab w4 p (st (cl c k) r) 0) := hr3; replace HB : Hid (Below w.heap.size w w4) := HB.out.trans (one_below hb HL.out HB.out.size); clear hr3 hb H3)
                  | (go_at_call 9; refine (calls_any H4.out).mono ?_; rintro e wx ⟨rfl, hwx⟩; obtain rfl := hwx.symm))
                go_roundg g
                case measure => omega
                case rel => exact ⟨_, false, rfl, rfl, (by have := HG.out; have := HC.out; have := cn_st (c := cl c k) (k := r) 8; rw [if_pos hr] at this; have e3 : one true = 1 := rfl; have e4 : one false = 0 := rfl; show _ ≤ _; omega), H4, HB⟩
      | succ g =>
        have hlt : (i : Int) < m := by omega
        obtain ⟨b, off, rfl, hbl, hcl⟩ := (HA.out.below HB.out).spot (by rw [HM.out]; omega)
        have y0 := hcl i (by rw [HM.out]; omega)
        have hz := HA.out.at i
        obtain ⟨x, hx⟩ := Int.eq_ofNat_of_zero_le hz.1
        rw [hx] at y0 hz
        have hx8 : x ≤ 255 := by omega
        have e2 : Int.tmod (x : Int) 8 = ((x % 8 : Nat) : Int) := rfl
        have hk : x % 8 < 8 := by omega
        clear hcl hx hz
        generalize x % 8 = k at *
        have hkI : (k : Int) < 8 := by omega
        have hc := HT.out.hc
        obtain ⟨kb, p1, p2⟩ : ∃ kb : Nat, (2 : Int) ^ k % 256 = (kb : Int) ∧ bits .or .u8 (c : Int) (kb : Int) = ((st c k : Nat) : Int) := ⟨pw k, shl_pw hk, or_pw hc hk⟩
        have HY : Hid (∀ wx, Buts [p] wr wx → wx.cell? ⟨b, off + i, none⟩ = some (.int .u8 (x : Nat))) := fun wx hb => by
          have hl := cell_lt y0
          have := HL.out
          unfold World.cell? at y0 ⊢
          rw [hb.block b hl (by simp; omega)]
          exact y0
        go_wp2_with (first
          | (go_at_call 7; refine (raise_k HT.out hk).mono ?_; rintro e w3 ⟨rfl, hr3, hb⟩; have H3 : Hid (Tab w3 p (st c k) 0) := hr3; have y3 := HY.out _ hb; replace HB : Hid (Below w.heap.size w w3) := HB.out.trans (one_below hb HL.out HB.out.size); clear hr3 hb HT))
        go_roundg g
        case measure => omega
        case rel => exact ⟨i + 1, st c k, by omega, rfl, by go_num, H3, HB⟩
end Go.Proofs.Ytedheamenlnfkab
