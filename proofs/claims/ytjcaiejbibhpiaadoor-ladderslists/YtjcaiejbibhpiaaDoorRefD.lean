/- What the statements' own reference answers: whether a rank has somebody, the list, the first. -/
import Derived.Test.YtjcaiejbibhpiaaDoorSame
import Derived.Deep.QuietTactic
import Derived.BigQuiet
import Derived.Deep.CutRange
import Derived.Deep.RegionWith
import Derived.Deep.RegionLaw
namespace Go.Proofs.YtjcaiejbibhpiaaDoor
open Go Go.RowKit
set_option maxRecDepth 100000
set_option linter.unusedVariables false
theorem rhas_any (l : Nat) (hl : l < 4294967296) (k : Nat) (hk : k ≤ 31) (w : World) :
    Calls Tryd.prog 13 #[.int .u32 (l : Int), .int .i64 (k : Int)] w fun e w' => e = .returned (.bool (l.testBit k)) ∧ w' = w := by
  go_enter Tryd.func13, Tryd.ntmps13
  go_wp2
  go_loopg [0, 5] k (fun g s0 s5 wx => ∃ i x : Nat, i + g = k ∧ s0 = .int .u32 (x : Int) ∧ s5 = .int .i64 i ∧ w = wx ∧ x < 4294967296 ∧ Hid (x = l / 2 ^ i))
  case atStart => exact ⟨0, l, by omega, rfl, rfl, rfl, hl, by show l = l / 2 ^ 0; simp⟩
  case round =>
    obtain ⟨i, x, hig, rfl, rfl, rfl, hx, he⟩ := hrel
    cases gk with
    | zero =>
      have hlt : ¬ ((i : Int) < k) := by omega
      go_wp2
      go_ret
      refine ⟨congrArg Ending.returned (congrArg Value.bool ?_), rfl⟩
      obtain rfl : i = k := by omega
      rw [Nat.testBit_eq_decide_div_mod_eq, ← he.out]
      apply Bool.eq_iff_iff.2
      simp
      omega
    | succ g =>
      have hlt : (i : Int) < k := by omega
      go_wp2
      go_roundg g
      case measure => omega
      case rel => exact ⟨i + 1, x / 2, by omega, by simp, by go_num, rfl, by omega, by show x / 2 = l / 2 ^ (i + 1); rw [he.out, Nat.pow_succ, Nat.div_div_eq_div_mul]⟩
theorem infoI' : (Tryd.prog.info? 3).map (fun i => (i.zero, i.size, i.bytes)) = some (some (.int .i64 0), 1, 8) := by kernel_rfl
/-- what the list has when the ranks below k are still to be asked -/
def ups (l : Nat) : Nat → List Int
  | 0 => []
  | g + 1 => if l.testBit (31 - g) then ups l g ++ [((31 - g : Nat) : Int)] else ups l g
theorem ups_len (l : Nat) : ∀ g, (ups l g).length ≤ g
  | 0 => by simp [ups]
  | g + 1 => by
    have := ups_len l g
    unfold ups
    split
    · rw [List.length_append]; simp; omega
    · omega
theorem downs_split (l : Nat) : ∀ g, g ≤ 32 → told l = ups l g ++ (downs l (32 - g)).map Int.ofNat
  | 0, _ => rfl
  | g + 1, h => by
    rw [downs_split l g (by omega), show ups l (g + 1) = if l.testBit (31 - g) then ups l g ++ [((31 - g : Nat) : Int)] else ups l g from rfl]
    rw [show 32 - g = (31 - g) + 1 by omega, show 32 - (g + 1) = 31 - g by omega]
    by_cases hb : l.testBit (31 - g) = true
    · rw [if_pos hb]
      simp [downs, hb]
    · rw [if_neg hb]
      simp [downs, hb]
theorem ups_all (l : Nat) : ups l 32 = told l := by
  have := downs_split l 32 (by decide)
  simpa [downs] using this.symm
set_option maxHeartbeats 2000000 in
theorem rlist_any (L : Nat) (hL : L < 4294967296) (w : World) :
    Calls Tryd.prog 8 #[.int .u32 (L : Int)] w fun e W' => ∃ v, e = .returned v ∧ W'.ownsRow w.heap.size 3 1 v (told L).length ((told L).map (Value.int .i64)) ∧ Below w.heap.size w W' := by
  obtain ⟨i0, hi, hz0, hz1, hz2⟩ := info_parts infoI'
  go_enter Tryd.func8, Tryd.ntmps8
  go_wp2
  go_loopg [3, 4] 32 (fun g s3 s4 wx => ∃ k : Nat, k + g = 32 ∧ s4 = .int .i64 ((g : Int) - 1) ∧ wx.ownsRow w.heap.size 3 1 s3 (ups L k).length ((ups L k).map (Value.int .i64)) ∧ Below w.heap.size w wx)
  case atStart => exact ⟨0, by omega, rfl, World.ownsRow_nil _ _ _ _, Below.refl _ _⟩
  case round =>
    obtain ⟨k, hkg, rfl, ho, hB⟩ := hrel
    cases gk with
    | zero =>
      obtain rfl : k = 32 := by omega
      rw [ups_all] at ho
      have HO : Hid _ := ho
      clear ho
      go_wp2
      go_ret
      exact ⟨_, rfl, HO.out, hB⟩
    | succ g =>
      have e1 : (((g + 1 : Nat) : Int) - 1) = (g : Int) := by omega
      rw [e1]
      clear e1
      have hlt : (0 : Int) ≤ (g : Int) := by omega
      have hup : ups L (k + 1) = if L.testBit g then ups L k ++ [(g : Int)] else ups L k := by
        rw [show g = 31 - k by omega]; rfl
      have hl := ups_len L k
      cases hbit : L.testBit g with
      | false =>
        rw [hbit, if_neg (by simp)] at hup
        have HO : Hid (wr.ownsRow w.heap.size 3 1 u3 (ups L (k + 1)).length ((ups L (k + 1)).map (Value.int .i64))) := by rw [hup]; exact ho
        clear ho hup
        go_wp2_with (go_at_call 13; refine (rhas_any L hL g (by omega) _).mono ?_; rintro e wx ⟨rfl, hwx⟩; obtain rfl := hwx.symm; simp only [hbit])
        go_roundg g
        case measure => omega
        case rel => exact ⟨k + 1, by omega, rfl, HO.out, hB⟩
      | true =>
        rw [hbit, if_pos rfl] at hup
        go_wp2_with (first
          | (go_at_call 13; refine (rhas_any L hL g (by omega) _).mono ?_; rintro e wx ⟨rfl, hwx⟩; obtain rfl := hwx.symm; simp only [hbit])
          | (at_builtin; refine wpList_append_own _ rfl _ _ 23 rfl w.heap.size 3 i0 (.int .i64 0) 1 8 Tryd.underlying23 hi hz0 hz1 hz2 rfl (by decide) _ _ _ rfl (ho.alloc _) ⟨wr.heap.size, 0, none⟩ 1 1 [.int .i64 (g : Int)] rfl rfl (cell1 wr _ _) (by simp [Value.oneCell']) (by simp only [maxLen]; omega) (by omega) (by have := hB.size; rw [alloc_size]; omega) ?_; intro v' w1 hown' hgrow _; have hgr : (wr.alloc (.cells #[.int .i64 (g : Int)] 3)).grownBy w1 u3.ownBlock := hgrow))
        go_roundg g
        case measure => omega
        case rel =>
          refine ⟨k + 1, by omega, rfl, ?_, ?_⟩
          · rw [hup]; simpa using hown'
          · exact hB.trans (((alloc_below wr _).mono hB.size).trans ((Buts.grown hgr).below (fun x hx => (ho.lt x (by simpa using hx)).1) (by have := hB.size; rw [alloc_size]; omega)))
theorem rlist_src (L : Nat) (hL : L < 4294967296) (w : World) :
    Calls Tryd.prog 8 #[.int .u32 (L : Int)] w fun e w' => ∃ sp cap, e = .returned (.slice sp (told L).length cap) ∧ Src w' sp (told L) ∧ Below w.heap.size w w' :=
  (rlist_any L hL w).mono fun e w' ⟨v, he, ho, hb⟩ => by
    obtain ⟨sp, cap, rfl, hs⟩ := Src.own ho
    exact ⟨sp, cap, he, hs, hb⟩
theorem rfirst_yes (l : Nat) (hl : l < 4294967296) (h0 : l ≠ 0) (w : World) :
    Calls Tryd.prog 6 #[.int .u32 (l : Int)] w fun e w' => e = .returned (.tuple #[.int .i64 (l.log2 : Nat), .bool true]) ∧ Below w.heap.size w w' := by
  have hf := told_first h0 hl
  have H0 : Hid (0 < (told l).length) := by show 0 < _; rw [hf]; simp
  have H1 : Hid ((told l).getD 0 0 = (l.log2 : Int)) := by show _ = _; rw [hf]; rfl
  have h2 : ((told l).length : Int) ≠ 0 := by have := H0.out; omega
  have h3 : (0 : Int) < ((told l).length : Int) := by have := H0.out; omega
  have m1 := told_le l
  clear hf
  generalize hn : (told l).length = n at H0 h2 h3 m1
  have HN : Hid ((told l).length = n) := hn
  clear hn
  go_enter Tryd.func6, Tryd.ntmps6
  go_wp2_with (go_at_call 8; refine (rlist_src l hl _).mono ?_; rintro e w1 ⟨sp, cap, rfl, hs, hB⟩; rw [HN.out]; obtain ⟨b, off, rfl, hc⟩ := hs (by rw [HN.out]; exact H0.out); have k1 := hc 0 (by rw [HN.out]; exact H0.out); rw [H1.out, Nat.add_zero] at k1; clear hc hs)
  go_ret2
  exact ⟨rfl, hB⟩
theorem rfirst_no (w : World) :
    Calls Tryd.prog 6 #[.int .u32 0] w fun e w' => e = .returned (.tuple #[.int .i64 0, .bool false]) ∧ Below w.heap.size w w' := by
  have h := rlist_src 0 (by decide) w
  rw [told_zero] at h
  have H : Hid (Calls Tryd.prog 8 #[.int .u32 0] w fun e w' => ∃ sp cap, e = .returned (.slice sp 0 cap) ∧ Src w' sp [] ∧ Below w.heap.size w w') := h
  clear h
  go_enter Tryd.func6, Tryd.ntmps6
  go_wp2_with (go_at_call 8; refine H.out.mono ?_; rintro e w1 ⟨sp, cap, rfl, hs, hB⟩)
  go_ret2
  exact ⟨rfl, hB⟩
end Go.Proofs.YtjcaiejbibhpiaaDoor
