/- LaddersBuilt: a ladder is what is made of its ranks, in whatever order they are set. -/
import Derived.Test.YtjcaiejbibhpiaaArgs
namespace Go.Proofs.Ytjcaiejbibhpiaa
open Go Go.RowKit
set_option maxRecDepth 100000
set_option linter.unusedVariables false
theorem has_is {w : World} {sp : Option Addr} {l n : Nat} (hl : l < 4294967296) (hs : Src w sp (told l)) (hn : n = (told l).length) (c : Nat) (r : Int) (b : Bool) (hb : decide (r ∈ told l) = b) :
    Calls Try.prog 13 #[.slice sp n c, .int .i64 r] w fun e w' => e = .returned (.bool b) ∧ w' = w := by
  subst hn hb
  exact has_any hs (by have := told_le l; omega) c r
/-- the ladder of the first i of some ranks -/
def Of (a : Nat) (i : Nat) (f : Nat → Int) : Prop := ∀ k, a.testBit k = true ↔ ∃ j, j < i ∧ f j = (k : Int)
theorem Of.zero (f : Nat → Int) : Of 0 0 f := by
  intro k
  rw [Nat.zero_testBit]
  constructor
  · intro h; cases h
  · rintro ⟨j, hj, _⟩; omega
theorem Of.succ {a i : Nat} {f : Nat → Int} (h : Of a i f) (r : Int) (hr : f i = r) (h31 : r ≤ 31) : Of (setL a r) (i + 1) f := by
  intro k
  rw [setL_bit, Bool.or_eq_true, decide_eq_true_eq, h k]
  constructor
  · rintro (⟨j, hj, e⟩ | ⟨e, _⟩)
    · exact ⟨j, by omega, e⟩
    · exact ⟨i, by omega, by rw [hr, e]⟩
  · rintro ⟨j, hj, e⟩
    by_cases ej : j = i
    · subst ej
      rw [hr] at e
      exact Or.inr ⟨e.symm, by omega⟩
    · exact Or.inl ⟨j, by omega, e⟩
theorem Of.eq {a b i : Nat} {f g : Nat → Int} (h : Of a i f) (k : Of b i g) (hfg : ∀ j, j < i → ∃ m, m < i ∧ g m = f j) (hgf : ∀ j, j < i → ∃ m, m < i ∧ f m = g j) : a = b := by
  apply bits_eq
  intro n
  apply Bool.eq_iff_iff.2
  rw [h n, k n]
  constructor
  · rintro ⟨j, hj, e⟩
    obtain ⟨m, hm, e'⟩ := hfg j hj
    exact ⟨m, hm, by rw [e', e]⟩
  · rintro ⟨j, hj, e⟩
    obtain ⟨m, hm, e'⟩ := hgf j hj
    exact ⟨m, hm, by rw [e', e]⟩
theorem of_told {a c : Nat} (ha : a < 4294967296) (h : Of c (told a).length (fun j => (told a).getD j 0)) : c = a := by
  apply bits_eq
  intro n
  rw [← told_nat ha]
  apply Bool.eq_iff_iff.2
  rw [h n, decide_eq_true_eq]
  constructor
  · rintro ⟨j, hj, e⟩; rw [← e]; exact getD_mem hj
  · intro hm
    obtain ⟨j, hj, e⟩ := List.getElem_of_mem hm
    exact ⟨j, hj, by simp [hj, e]⟩
theorem Of.mem {a i : Nat} {f : Nat → Int} (h : Of a i f) (ha : a < 4294967296) (j : Nat) (hj : j < i) (r : Int) (hr : f j = r) (h0 : 0 ≤ r) : decide (r ∈ told a) = true := by
  rw [decide_eq_true_eq, told_mem ha]
  exact ⟨h0, (h r.toNat).2 ⟨j, hj, by rw [hr]; omega⟩⟩
theorem built_many {w : World} {sp : Option Addr} {n : Nat} (hn : 100 < n) (cap : Nat) (hm : n ≤ maxLen) :
    Calls Try.prog 6 #[.slice sp n cap] w fun e w' => e = .returned (.bool true) ∧ Below w.heap.size w w' := by
  have hn' : (100 : Int) < n := by omega
  have M1 := True.intro
  go_enter Try.func6, Try.ntmps6
  go_wp2_with (first
    | (go_at_call 14; clear M1; refine (alive_any _).mono ?_; rintro e w1 ⟨rfl, hB⟩)
    | (go_at_call 14; refine (alive_any _).mono ?_; rintro e w2 ⟨rfl, hb⟩; replace hB := hB.trans (hb.mono hB.size)))
  go_ret
  exact ⟨rfl, hB⟩
set_option maxHeartbeats 4000000 in
theorem built_few {w : World} {sp : Option Addr} {zs : List Int} {n : Nat} (hs : BSrc w.heap.size w sp zs) (HN : Hid (zs.length = n)) (hn : n ≤ 100) (cap : Nat) :
    Calls Try.prog 6 #[.slice sp n cap] w fun e w' => e = .returned (.bool true) ∧ Below w.heap.size w w' := by
  have hn' : ¬ ((100 : Int) < n) := by omega
  have HS : Hid (BSrc w.heap.size w sp zs) := hs
  clear hs
  go_enter Try.func6, Try.ntmps6
  go_wp2_with (go_at_call 14; refine (alive_any _).mono ?_; rintro e w1 ⟨rfl, hB⟩)
  go_loopg [3, 4, 5] n (fun g s3 s4 s5 wx => ∃ i a b : Nat, i + g = n ∧ s3 = .int .u32 (a : Int) ∧ s4 = .int .u32 (b : Int) ∧ s5 = .int .i64 i ∧ w1 = wx ∧ a < 4294967296 ∧ b < 4294967296 ∧ Hid (Of a i (fun j => zs.getD j 0 % 32)) ∧ Hid (Of b i (fun j => zs.getD (n - 1 - j) 0 % 32)) ∧ Hid ((ranks a).length ≤ i))
  case atStart => exact ⟨0, 0, 0, by omega, rfl, rfl, rfl, rfl, by decide, by decide, Of.zero _, Of.zero _, by show _ ≤ _; decide⟩
  case round =>
    obtain ⟨i, a, b, hig, rfl, rfl, rfl, rfl, ha, hb, h1, h2, h3⟩ := hrel
    cases gk with
    | succ g =>
      have hlt : (i : Int) < n := by omega
      obtain ⟨bb, off, rfl, hbl, hc⟩ := HS.out.spot (by have := HN.out; omega)
      have k1 := (hB.cell (p := ⟨bb, off + i, none⟩) hbl).trans (hc i (by have := HN.out; omega))
      have k2 := (hB.cell (p := ⟨bb, off + (n - 1 - i), none⟩) hbl).trans (hc _ (by have := HN.out; omega))
      have z1 := HS.out.at i
      have z2 := HS.out.at (n - 1 - i)
      have e1 : Hid (∀ z, zs.getD i 0 = z → Of (setL a (z % 32)) (i + 1) (fun j => zs.getD j 0 % 32)) := fun z hz => h1.out.succ _ (by rw [← hz]) (by omega)
      have e2 : Hid (∀ z, zs.getD (n - 1 - i) 0 = z → Of (setL b (z % 32)) (i + 1) (fun j => zs.getD (n - 1 - j) 0 % 32)) := fun z hz => h2.out.succ _ (by rw [← hz]) (by omega)
      have y1 : Hid (zs.getD i 0 = zs.getD i 0) := rfl
      replace e1 : Hid (Of (setL a (zs.getD i 0 % 32)) (i + 1) (fun j => zs.getD j 0 % 32)) := e1.out _ rfl
      replace e2 : Hid (Of (setL b (zs.getD (n - 1 - i) 0 % 32)) (i + 1) (fun j => zs.getD (n - 1 - j) 0 % 32)) := e2.out _ rfl
      clear y1 hc h1 h2
      generalize hz : zs.getD i 0 = z at k1 z1 e1
      generalize hy : zs.getD (n - 1 - i) 0 = y at k2 z2 e2
      clear hz hy
      go_wp2_with (first
        | (go_at_call_of 8 (Value.int IntKind.u32 (a : Int)); refine (set_any a ha _ _).mono ?_; rintro e wx ⟨rfl, hwx⟩; obtain rfl := hwx.symm)
        | (go_at_call_of 8 (Value.int IntKind.u32 (b : Int)); refine (set_any b hb _ _).mono ?_; rintro e wx ⟨rfl, hwx⟩; obtain rfl := hwx.symm))
      go_roundg g
      case measure => omega
      case rel => exact ⟨i + 1, setL a (z % 32), setL b (y % 32), by omega, rfl, rfl, by go_num, rfl, setL_lt ha _, setL_lt hb _, e1, e2, by show _ ≤ _; have := set_one a (z % 32); have := h3.out; omega⟩
    | zero =>
      have hlt : ¬ ((i : Int) < n) := by omega
      obtain rfl : i = n := by omega
      obtain rfl : a = b := h1.out.eq h2.out (fun j hj => ⟨i - 1 - j, by omega, by show zs.getD (i - 1 - (i - 1 - j)) 0 % 32 = zs.getD j 0 % 32; rw [show i - 1 - (i - 1 - j) = j by omega]⟩) (fun j hj => ⟨i - 1 - j, by omega, rfl⟩)
      have hlen : (told a).length ≤ i := by rw [told_len]; exact h3.out
      clear h2 h3 hb
      go_wp2_with (go_at_call 12; refine (list_src a ha _).mono ?_; rintro e w2 ⟨sp2, cap2, rfl, hs2, hb⟩; replace hB := hB.trans (hb.mono hB.size))
      have n2 := told_le a
      have T2 : Hid (∀ j, j < (told a).length → 0 ≤ (told a).getD j 0 ∧ (told a).getD j 0 ≤ 31) := fun j hj => by
        have hm := getD_mem hj
        rw [told_mem ha] at hm
        have := bit_low ha hm.2
        omega
      obtain ⟨m, hm⟩ : ∃ m, (told a).length = m := ⟨_, rfl⟩
      have HM : Hid ((told a).length = m) := hm
      have HS2 : Hid (Src w2 sp2 (told a)) := hs2
      rw [hm] at n2 hlen T2 ⊢
      clear hm hb hs2
      go_loopg [7, 8] m (fun g s7 s8 wx => ∃ j c : Nat, j + g = m ∧ s7 = .int .u32 (c : Int) ∧ s8 = .int .i64 j ∧ w2 = wx ∧ c < 4294967296 ∧ Hid (Of c j (fun j => (told a).getD j 0)))
      case atStart => exact ⟨0, 0, by omega, rfl, rfl, rfl, by decide, Of.zero _⟩
      case round =>
        obtain ⟨j, c, hjg, rfl, rfl, rfl, hc, h4⟩ := hrel
        cases gk with
        | succ g =>
          have hlt2 : (j : Int) < m := by omega
          obtain ⟨b2, off2, rfl, hc2⟩ := HS2.out (by have := HM.out; omega)
          have k3 := hc2 j (by have := HM.out; omega)
          have t3 := T2.out j (by have := HM.out; omega)
          have e3 : Hid (Of (setL c ((told a).getD j 0)) (j + 1) (fun j => (told a).getD j 0)) := h4.out.succ _ rfl t3.2
          clear hc2 h4
          generalize hz : (told a).getD j 0 = z at k3 t3 e3
          clear hz
          go_wp2_with (go_at_call 8; refine (set_any c hc _ _).mono ?_; rintro e wx ⟨rfl, hwx⟩; obtain rfl := hwx.symm)
          go_roundg g
          case measure => omega
          case rel => exact ⟨j + 1, setL c z, by omega, rfl, by go_num, rfl, setL_lt hc _, e3⟩
        | zero =>
          have hlt2 : ¬ ((j : Int) < m) := by omega
          obtain rfl : a = c := (of_told ha (by rw [HM.out, show m = j by omega]; exact h4.out)).symm
          clear h4
          have hle : decide ((m : Int) ≤ (i : Int)) = true := decide_eq_true (by omega)
          go_wp2
          go_loopg [9] i (fun g s9 wx => ∃ k : Nat, k + g = i ∧ s9 = .int .i64 k ∧ w2 = wx)
          case atStart => exact ⟨0, by omega, rfl, rfl⟩
          case round =>
            obtain ⟨k, hkg, rfl, rfl⟩ := hrel
            cases gk with
            | succ g =>
              have hlt3 : (k : Int) < i := by omega
              obtain ⟨bb, off, rfl, hbl, hc3⟩ := HS.out.spot (by have := HN.out; omega)
              have k5 := (hB.cell (p := ⟨bb, off + k, none⟩) hbl).trans (hc3 k (by have := HN.out; omega))
              have z5 := HS.out.at k
              have e5 : Hid (decide (zs.getD k 0 % 32 ∈ told a) = true) := h1.out.mem ha k (by omega) _ rfl (by omega)
              clear hc3
              generalize hz : zs.getD k 0 = z at k5 z5 e5
              clear hz
              go_wp2_with (go_at_call 13; refine (has_is ha HS2.out HM.out.symm _ _ _ e5.out).mono ?_; rintro e wx ⟨rfl, hwx⟩; obtain rfl := hwx.symm)
              go_roundg g
              case measure => omega
              case rel => exact ⟨k + 1, by omega, by go_num, rfl⟩
            | zero =>
              have hlt3 : ¬ ((k : Int) < i) := by omega
              go_wp2
              go_ret
              exact ⟨rfl, hB⟩
theorem built_any {w : World} {sp : Option Addr} {zs : List Int} (hs : BSrc w.heap.size w sp zs) (hm : zs.length ≤ maxLen) (cap : Nat) :
    Calls Try.prog 6 #[.slice sp zs.length cap] w fun e w' => e = .returned (.bool true) ∧ Below w.heap.size w w' := by
  by_cases h : zs.length ≤ 100
  · exact built_few hs rfl h cap
  · exact built_many (by omega) cap hm
end Go.Proofs.Ytjcaiejbibhpiaa
