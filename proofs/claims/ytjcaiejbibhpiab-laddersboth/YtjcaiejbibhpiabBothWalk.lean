/- LaddersBoth: the first of two ladders together is the greater one of both first ones; what is in one of them, or both, is in that, once. -/
import Derived.Test.YtjcaiejbibhpiabSeen
namespace Go.Proofs.Ytjcaiejbibhpiab
open Go Go.RowKit
set_option maxRecDepth 100000
set_option linter.unusedVariables false
theorem has_is {w : World} {sp : Option Addr} {l n : Nat} (hl : l < 4294967296) (hs : Src w sp (told l)) (hn : n = (told l).length) (c : Nat) (r : Int) (b : Bool) (hb : decide (r ∈ told l) = b) :
    Calls Try.prog 7 #[.slice sp n c, .int .i64 r] w fun e w' => e = .returned (.bool b) ∧ w' = w := by
  subst hn hb
  exact has_any hs (by have := told_le l; omega) c r
theorem first_any (l : Nat) (hl : l < 4294967296) (x : Nat) (b : Bool) (hx : l.log2 = x) (hb : decide (l ≠ 0) = b) (w : World) :
    Calls Try.prog 5 #[.int .u32 (l : Int)] w fun e w' => e = .returned (.tuple #[.int .i64 (x : Int), .bool b]) ∧ w' = w := by
  subst hx hb
  by_cases h : l = 0
  · subst h
    exact first_no w
  · rw [show decide (l ≠ 0) = true from decide_eq_true h]
    exact first_yes l hl h w
theorem or_lt {a b : Nat} (ha : a < 4294967296) (hb : b < 4294967296) : a ||| b < 4294967296 := Nat.or_lt_two_pow (n := 32) ha hb
theorem and_lt {a b : Nat} (ha : a < 4294967296) (hb : b < 4294967296) : a &&& b < 4294967296 := Nat.and_lt_two_pow (n := 32) _ hb
theorem both_told (a b : Nat) : (told (a ||| b)).length + (told (a &&& b)).length = (told a).length + (told b).length := by
  simp only [told_len]; exact both_len a b 32
theorem or_eq0 {a b : Nat} : a ||| b = 0 ↔ a = 0 ∧ b = 0 := Nat.or_eq_zero_iff
set_option maxHeartbeats 4000000 in
theorem both_any (a b : Nat) (ha : a < 4294967296) (hb : b < 4294967296) (x y z : Nat) (p q : Bool) (hx : Hid (a.log2 = x)) (hy : Hid (b.log2 = y)) (hz : Hid ((a ||| b).log2 = z)) (hp : Hid (decide (a ≠ 0) = p)) (hq : Hid (decide (b ≠ 0) = q)) (ht : Hid (decide (a ||| b ≠ 0) = (p || q))) (hmx : p = true ∨ q = true → (if x < y then (y : Int) else (x : Int)) = (z : Int)) (w : World) :
    Calls Try.prog 3 #[.int .u32 (a : Int), .int .u32 (b : Int)] w fun e w' => e = .returned (.bool true) ∧ Below w.heap.size w w' := by
  obtain ⟨o, ho⟩ : ∃ o, a ||| b = o := ⟨_, rfl⟩
  obtain ⟨d, hd⟩ : ∃ d, a &&& b = d := ⟨_, rfl⟩
  have h1 : bits .or .u32 (a : Int) (b : Int) = (o : Int) := by rw [← ho]; exact u32_or_nat a b ha hb
  have h2 : bits .and .u32 (a : Int) (b : Int) = (d : Int) := by rw [← hd]; exact u32_and_nat a b ha hb
  have lo : o < 4294967296 := ho ▸ or_lt ha hb
  have ld : d < 4294967296 := hd ▸ and_lt ha hb
  have HB : Hid ((told o).length + (told d).length = (told a).length + (told b).length) := ho ▸ hd ▸ both_told a b
  have HO : Hid (∀ r, r ∈ told o → r ∈ told a ∨ r ∈ told b) := fun r hr => by
    rw [told_mem lo, ← ho, Nat.testBit_or, Bool.or_eq_true] at hr
    rcases hr with ⟨h0, hr | hr⟩
    · exact Or.inl ((told_mem ha r).2 ⟨h0, hr⟩)
    · exact Or.inr ((told_mem hb r).2 ⟨h0, hr⟩)
  rw [ho] at hz ht
  clear ho hd
  cases p with
  | false =>
    cases q with
    | false =>
    clear hmx
    go_enter Try.func3, Try.ntmps3
    go_wp2_with (first
      | (go_at_call_of 5 (Value.int IntKind.u32 (a : Int)); refine (first_any a ha x _ hx.out hp.out _).mono ?_; rintro e wx ⟨rfl, hwx⟩; obtain rfl := hwx.symm)
      | (go_at_call_of 5 (Value.int IntKind.u32 (b : Int)); refine (first_any b hb y _ hy.out hq.out _).mono ?_; rintro e wx ⟨rfl, hwx⟩; obtain rfl := hwx.symm)
      | (go_at_call_of 5 (Value.int IntKind.u32 (o : Int)); refine (first_any o lo z _ hz.out ht.out _).mono ?_; rintro e wx ⟨rfl, hwx⟩; obtain rfl := hwx.symm)
      | (go_at_call_of 6 (Value.int IntKind.u32 (o : Int)); refine (list_src o lo _).mono ?_; rintro e w1 ⟨sp1, cap1, rfl, hs1, hB⟩)
      | (go_at_call_of 6 (Value.int IntKind.u32 (a : Int)); refine (list_src a ha _).mono ?_; rintro e w2 ⟨sp2, cap2, rfl, hs2, hbb⟩; replace hB := hB.trans (hbb.mono hB.size); replace hs1 := hs1.below hbb; clear hbb)
      | (go_at_call_of 6 (Value.int IntKind.u32 (b : Int)); refine (list_src b hb _).mono ?_; rintro e w3 ⟨sp3, cap3, rfl, hs3, hbb⟩; replace hB := hB.trans (hbb.mono hB.size); replace hs1 := hs1.below hbb; replace hs2 := hs2.below hbb; clear hbb)
      | (go_at_call_of 6 (Value.int IntKind.u32 (d : Int)); refine (list_src d ld _).mono ?_; rintro e w4 ⟨sp4, cap4, rfl, hs4, hbb⟩; replace hB := hB.trans (hbb.mono hB.size); replace hs1 := hs1.below hbb; replace hs2 := hs2.below hbb; replace hs3 := hs3.below hbb; clear hbb hs4))
    obtain ⟨n1, hn1⟩ : ∃ n, (told o).length = n := ⟨_, rfl⟩
    obtain ⟨n2, hn2⟩ : ∃ n, (told a).length = n := ⟨_, rfl⟩
    obtain ⟨n3, hn3⟩ : ∃ n, (told b).length = n := ⟨_, rfl⟩
    obtain ⟨n4, hn4⟩ : ∃ n, (told d).length = n := ⟨_, rfl⟩
    have m1 := told_le o
    have m2 := told_le a
    have m3 := told_le b
    have m4 := told_le d
    have N1 : Hid ((told o).length = n1) := hn1
    have N2 : Hid ((told a).length = n2) := hn2
    have N3 : Hid ((told b).length = n3) := hn3
    have S1 : Hid (Src w4 sp1 (told o)) := hs1
    have hsum : n1 + n4 = n2 + n3 := by have := HB.out; rw [hn1, hn2, hn3, hn4] at this; exact this
    rw [hn1, hn2, hn3, hn4]
    rw [hn1] at m1
    rw [hn2] at m2
    rw [hn3] at m3
    rw [hn4] at m4
    clear hn1 hn2 hn3 hn4 hs1
    go_loopg [15] n1 (fun g s15 wx => ∃ i : Nat, i + g = n1 ∧ s15 = .int .i64 i ∧ w4 = wx)
    case atStart => exact ⟨0, by omega, rfl, rfl⟩
    case round =>
      obtain ⟨i, hig, rfl, rfl⟩ := hrel
      cases gk with
      | zero =>
        have hlt : ¬ ((i : Int) < n1) := by omega
        have hsum' : ((n1 : Int) + n4 == (n2 : Int) + n3) = true := by rw [beq_iff_eq]; omega
        go_wp2_with (go_at_call 8; refine (alive_any _).mono ?_; rintro e w5 ⟨rfl, hbb⟩; replace hB := hB.trans (hbb.mono hB.size))
        go_ret
        exact ⟨rfl, hB⟩
      | succ g =>
        have hlt : (i : Int) < n1 := by omega
        obtain ⟨bb, off, rfl, hc⟩ := S1.out (by have := N1.out; omega)
        have k1 := hc i (by have := N1.out; omega)
        have hm := HO.out _ (getD_mem (zs := told o) (i := i) (by have := N1.out; omega))
        clear hc
        generalize (told o).getD i 0 = r at k1 hm
        by_cases hr : r ∈ told a
        · have E1 : Hid (decide (r ∈ told a) = true) := decide_eq_true hr
          clear hm hr
          go_wp2_with (go_at_call 7; refine (has_is ha hs2 N2.out.symm _ r _ E1.out).mono ?_; rintro e wx ⟨rfl, hwx⟩; obtain rfl := hwx.symm)
          go_roundg g
          case measure => omega
          case rel => exact ⟨i + 1, by omega, by go_num, rfl⟩
        · have E1 : Hid (decide (r ∈ told a) = false) := decide_eq_false hr
          have E2 : Hid (decide (r ∈ told b) = true) := decide_eq_true (hm.resolve_left hr)
          clear hm hr
          go_wp2_with (first
            | (go_at_call_of 7 (Value.slice sp2 n2 cap2); refine (has_is ha hs2 N2.out.symm _ r _ E1.out).mono ?_; rintro e wx ⟨rfl, hwx⟩; obtain rfl := hwx.symm)
            | (go_at_call_of 7 (Value.slice sp3 n3 cap3); refine (has_is hb hs3 N3.out.symm _ r _ E2.out).mono ?_; rintro e wx ⟨rfl, hwx⟩; obtain rfl := hwx.symm))
          go_roundg g
          case measure => omega
          case rel => exact ⟨i + 1, by omega, by go_num, rfl⟩
    | true =>
    replace hmx := hmx (Or.inr rfl)
    go_enter Try.func3, Try.ntmps3
    go_wp2_with (first
      | (go_at_call_of 5 (Value.int IntKind.u32 (a : Int)); refine (first_any a ha x _ hx.out hp.out _).mono ?_; rintro e wx ⟨rfl, hwx⟩; obtain rfl := hwx.symm)
      | (go_at_call_of 5 (Value.int IntKind.u32 (b : Int)); refine (first_any b hb y _ hy.out hq.out _).mono ?_; rintro e wx ⟨rfl, hwx⟩; obtain rfl := hwx.symm)
      | (go_at_call_of 5 (Value.int IntKind.u32 (o : Int)); refine (first_any o lo z _ hz.out ht.out _).mono ?_; rintro e wx ⟨rfl, hwx⟩; obtain rfl := hwx.symm)
      | (go_at_call_of 6 (Value.int IntKind.u32 (o : Int)); refine (list_src o lo _).mono ?_; rintro e w1 ⟨sp1, cap1, rfl, hs1, hB⟩)
      | (go_at_call_of 6 (Value.int IntKind.u32 (a : Int)); refine (list_src a ha _).mono ?_; rintro e w2 ⟨sp2, cap2, rfl, hs2, hbb⟩; replace hB := hB.trans (hbb.mono hB.size); replace hs1 := hs1.below hbb; clear hbb)
      | (go_at_call_of 6 (Value.int IntKind.u32 (b : Int)); refine (list_src b hb _).mono ?_; rintro e w3 ⟨sp3, cap3, rfl, hs3, hbb⟩; replace hB := hB.trans (hbb.mono hB.size); replace hs1 := hs1.below hbb; replace hs2 := hs2.below hbb; clear hbb)
      | (go_at_call_of 6 (Value.int IntKind.u32 (d : Int)); refine (list_src d ld _).mono ?_; rintro e w4 ⟨sp4, cap4, rfl, hs4, hbb⟩; replace hB := hB.trans (hbb.mono hB.size); replace hs1 := hs1.below hbb; replace hs2 := hs2.below hbb; replace hs3 := hs3.below hbb; clear hbb hs4))
    obtain ⟨n1, hn1⟩ : ∃ n, (told o).length = n := ⟨_, rfl⟩
    obtain ⟨n2, hn2⟩ : ∃ n, (told a).length = n := ⟨_, rfl⟩
    obtain ⟨n3, hn3⟩ : ∃ n, (told b).length = n := ⟨_, rfl⟩
    obtain ⟨n4, hn4⟩ : ∃ n, (told d).length = n := ⟨_, rfl⟩
    have m1 := told_le o
    have m2 := told_le a
    have m3 := told_le b
    have m4 := told_le d
    have N1 : Hid ((told o).length = n1) := hn1
    have N2 : Hid ((told a).length = n2) := hn2
    have N3 : Hid ((told b).length = n3) := hn3
    have S1 : Hid (Src w4 sp1 (told o)) := hs1
    have hsum : n1 + n4 = n2 + n3 := by have := HB.out; rw [hn1, hn2, hn3, hn4] at this; exact this
    rw [hn1, hn2, hn3, hn4]
    rw [hn1] at m1
    rw [hn2] at m2
    rw [hn3] at m3
    rw [hn4] at m4
    clear hn1 hn2 hn3 hn4 hs1
    go_loopg [15] n1 (fun g s15 wx => ∃ i : Nat, i + g = n1 ∧ s15 = .int .i64 i ∧ w4 = wx)
    case atStart => exact ⟨0, by omega, rfl, rfl⟩
    case round =>
      obtain ⟨i, hig, rfl, rfl⟩ := hrel
      cases gk with
      | zero =>
        have hlt : ¬ ((i : Int) < n1) := by omega
        have hsum' : ((n1 : Int) + n4 == (n2 : Int) + n3) = true := by rw [beq_iff_eq]; omega
        go_wp2_with (go_at_call 8; refine (alive_any _).mono ?_; rintro e w5 ⟨rfl, hbb⟩; replace hB := hB.trans (hbb.mono hB.size))
        go_ret
        exact ⟨rfl, hB⟩
      | succ g =>
        have hlt : (i : Int) < n1 := by omega
        obtain ⟨bb, off, rfl, hc⟩ := S1.out (by have := N1.out; omega)
        have k1 := hc i (by have := N1.out; omega)
        have hm := HO.out _ (getD_mem (zs := told o) (i := i) (by have := N1.out; omega))
        clear hc
        generalize (told o).getD i 0 = r at k1 hm
        by_cases hr : r ∈ told a
        · have E1 : Hid (decide (r ∈ told a) = true) := decide_eq_true hr
          clear hm hr
          go_wp2_with (go_at_call 7; refine (has_is ha hs2 N2.out.symm _ r _ E1.out).mono ?_; rintro e wx ⟨rfl, hwx⟩; obtain rfl := hwx.symm)
          go_roundg g
          case measure => omega
          case rel => exact ⟨i + 1, by omega, by go_num, rfl⟩
        · have E1 : Hid (decide (r ∈ told a) = false) := decide_eq_false hr
          have E2 : Hid (decide (r ∈ told b) = true) := decide_eq_true (hm.resolve_left hr)
          clear hm hr
          go_wp2_with (first
            | (go_at_call_of 7 (Value.slice sp2 n2 cap2); refine (has_is ha hs2 N2.out.symm _ r _ E1.out).mono ?_; rintro e wx ⟨rfl, hwx⟩; obtain rfl := hwx.symm)
            | (go_at_call_of 7 (Value.slice sp3 n3 cap3); refine (has_is hb hs3 N3.out.symm _ r _ E2.out).mono ?_; rintro e wx ⟨rfl, hwx⟩; obtain rfl := hwx.symm))
          go_roundg g
          case measure => omega
          case rel => exact ⟨i + 1, by omega, by go_num, rfl⟩
  | true =>
    replace hmx := hmx (Or.inl rfl)
    rw [Bool.true_or] at ht
    go_enter Try.func3, Try.ntmps3
    go_wp2_with (first
      | (go_at_call_of 5 (Value.int IntKind.u32 (a : Int)); refine (first_any a ha x _ hx.out hp.out _).mono ?_; rintro e wx ⟨rfl, hwx⟩; obtain rfl := hwx.symm)
      | (go_at_call_of 5 (Value.int IntKind.u32 (b : Int)); refine (first_any b hb y _ hy.out hq.out _).mono ?_; rintro e wx ⟨rfl, hwx⟩; obtain rfl := hwx.symm)
      | (go_at_call_of 5 (Value.int IntKind.u32 (o : Int)); refine (first_any o lo z _ hz.out ht.out _).mono ?_; rintro e wx ⟨rfl, hwx⟩; obtain rfl := hwx.symm)
      | (go_at_call_of 6 (Value.int IntKind.u32 (o : Int)); refine (list_src o lo _).mono ?_; rintro e w1 ⟨sp1, cap1, rfl, hs1, hB⟩)
      | (go_at_call_of 6 (Value.int IntKind.u32 (a : Int)); refine (list_src a ha _).mono ?_; rintro e w2 ⟨sp2, cap2, rfl, hs2, hbb⟩; replace hB := hB.trans (hbb.mono hB.size); replace hs1 := hs1.below hbb; clear hbb)
      | (go_at_call_of 6 (Value.int IntKind.u32 (b : Int)); refine (list_src b hb _).mono ?_; rintro e w3 ⟨sp3, cap3, rfl, hs3, hbb⟩; replace hB := hB.trans (hbb.mono hB.size); replace hs1 := hs1.below hbb; replace hs2 := hs2.below hbb; clear hbb)
      | (go_at_call_of 6 (Value.int IntKind.u32 (d : Int)); refine (list_src d ld _).mono ?_; rintro e w4 ⟨sp4, cap4, rfl, hs4, hbb⟩; replace hB := hB.trans (hbb.mono hB.size); replace hs1 := hs1.below hbb; replace hs2 := hs2.below hbb; replace hs3 := hs3.below hbb; clear hbb hs4))
    obtain ⟨n1, hn1⟩ : ∃ n, (told o).length = n := ⟨_, rfl⟩
    obtain ⟨n2, hn2⟩ : ∃ n, (told a).length = n := ⟨_, rfl⟩
    obtain ⟨n3, hn3⟩ : ∃ n, (told b).length = n := ⟨_, rfl⟩
    obtain ⟨n4, hn4⟩ : ∃ n, (told d).length = n := ⟨_, rfl⟩
    have m1 := told_le o
    have m2 := told_le a
    have m3 := told_le b
    have m4 := told_le d
    have N1 : Hid ((told o).length = n1) := hn1
    have N2 : Hid ((told a).length = n2) := hn2
    have N3 : Hid ((told b).length = n3) := hn3
    have S1 : Hid (Src w4 sp1 (told o)) := hs1
    have hsum : n1 + n4 = n2 + n3 := by have := HB.out; rw [hn1, hn2, hn3, hn4] at this; exact this
    rw [hn1, hn2, hn3, hn4]
    rw [hn1] at m1
    rw [hn2] at m2
    rw [hn3] at m3
    rw [hn4] at m4
    clear hn1 hn2 hn3 hn4 hs1
    go_loopg [15] n1 (fun g s15 wx => ∃ i : Nat, i + g = n1 ∧ s15 = .int .i64 i ∧ w4 = wx)
    case atStart => exact ⟨0, by omega, rfl, rfl⟩
    case round =>
      obtain ⟨i, hig, rfl, rfl⟩ := hrel
      cases gk with
      | zero =>
        have hlt : ¬ ((i : Int) < n1) := by omega
        have hsum' : ((n1 : Int) + n4 == (n2 : Int) + n3) = true := by rw [beq_iff_eq]; omega
        go_wp2_with (go_at_call 8; refine (alive_any _).mono ?_; rintro e w5 ⟨rfl, hbb⟩; replace hB := hB.trans (hbb.mono hB.size))
        go_ret
        exact ⟨rfl, hB⟩
      | succ g =>
        have hlt : (i : Int) < n1 := by omega
        obtain ⟨bb, off, rfl, hc⟩ := S1.out (by have := N1.out; omega)
        have k1 := hc i (by have := N1.out; omega)
        have hm := HO.out _ (getD_mem (zs := told o) (i := i) (by have := N1.out; omega))
        clear hc
        generalize (told o).getD i 0 = r at k1 hm
        by_cases hr : r ∈ told a
        · have E1 : Hid (decide (r ∈ told a) = true) := decide_eq_true hr
          clear hm hr
          go_wp2_with (go_at_call 7; refine (has_is ha hs2 N2.out.symm _ r _ E1.out).mono ?_; rintro e wx ⟨rfl, hwx⟩; obtain rfl := hwx.symm)
          go_roundg g
          case measure => omega
          case rel => exact ⟨i + 1, by omega, by go_num, rfl⟩
        · have E1 : Hid (decide (r ∈ told a) = false) := decide_eq_false hr
          have E2 : Hid (decide (r ∈ told b) = true) := decide_eq_true (hm.resolve_left hr)
          clear hm hr
          go_wp2_with (first
            | (go_at_call_of 7 (Value.slice sp2 n2 cap2); refine (has_is ha hs2 N2.out.symm _ r _ E1.out).mono ?_; rintro e wx ⟨rfl, hwx⟩; obtain rfl := hwx.symm)
            | (go_at_call_of 7 (Value.slice sp3 n3 cap3); refine (has_is hb hs3 N3.out.symm _ r _ E2.out).mono ?_; rintro e wx ⟨rfl, hwx⟩; obtain rfl := hwx.symm))
          go_roundg g
          case measure => omega
          case rel => exact ⟨i + 1, by omega, by go_num, rfl⟩
theorem both_row (a : Int) (ha : 0 ≤ a ∧ a ≤ 4294967295) (b : Int) (hb : 0 ≤ b ∧ b ≤ 4294967295) (w : World) :
    Calls Try.prog 3 #[.int .u32 a, .int .u32 b] w fun e w' => e = .returned (.bool true) ∧ Below w.heap.size w w' := by
  obtain ⟨l, rfl⟩ := Int.eq_ofNat_of_zero_le ha.1
  obtain ⟨m, rfl⟩ := Int.eq_ofNat_of_zero_le hb.1
  refine both_any l m (by omega) (by omega) _ _ _ _ _ rfl rfl rfl rfl rfl ?_ ?_ w
  · show decide (l ||| m ≠ 0) = (decide (l ≠ 0) || decide (m ≠ 0))
    apply Bool.eq_iff_iff.2
    rw [Bool.or_eq_true, decide_eq_true_eq, decide_eq_true_eq, decide_eq_true_eq, Ne, or_eq0]
    omega
  · intro h
    rw [decide_eq_true_eq, decide_eq_true_eq] at h
    by_cases h1 : l = 0
    · subst h1
      rw [Nat.zero_or, show Nat.log2 0 = 0 from by decide]
      split <;> omega
    · by_cases h2 : m = 0
      · subst h2
        rw [Nat.or_zero, show Nat.log2 0 = 0 from by decide]
        split <;> omega
      · rw [log_or h1 h2]
        split <;> omega
end Go.Proofs.Ytjcaiejbibhpiab
