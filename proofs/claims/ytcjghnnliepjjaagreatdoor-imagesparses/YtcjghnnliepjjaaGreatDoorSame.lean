/- What the statements' own helpers answer: whether two are the same. -/
import Derived.Test.YtcjghnnliepjjaaGreatDoorParseX
namespace Go.Proofs.YtcjghnnliepjjaaGreatDoor
open Go Go.RowKit
set_option maxRecDepth 100000
set_option linter.unusedVariables false
theorem eq_of_at {xs ys : List Int} (hl : xs.length = ys.length) (h : ∀ j, j < xs.length → xs.getD j 0 = ys.getD j 0) : xs = ys := by
  apply List.ext_getElem hl
  intro i h1 h2
  have := h i h1
  simpa [h1, h2] using this
theorem ne_of_at {xs ys : List Int} {j : Nat} (h : xs.getD j 0 ≠ ys.getD j 0) : xs ≠ ys := fun e => h (by rw [e])
set_option maxHeartbeats 2000000 in
theorem same_any {w : World} {sp tp : Option Addr} {xs ys : List Int} (hs : Src w sp xs) (ht : Src w tp ys) (hl : xs.length ≤ 1000000) (hl2 : ys.length ≤ 1000000) (c d : Nat) :
    Calls Tryz.prog 14 #[.slice sp xs.length c, .slice tp ys.length d] w fun e w' => e = .returned (.bool (decide (xs = ys))) ∧ Below w.heap.size w w' := by
  by_cases hne : xs.length = ys.length
  · rw [← hne]
    have HS : Hid (Src w sp xs) := hs
    have HT : Hid (Src w tp ys) := ht
    have HN : Hid (xs.length = ys.length) := hne
    obtain ⟨n, hn⟩ : ∃ n, xs.length = n := ⟨_, rfl⟩
    have HX : Hid (xs.length = n) := hn
    rw [hn]
    rw [hn] at hl
    clear hs ht hne hn hl2
    go_enter Tryz.func14, Tryz.ntmps14
    go_wp2
    go_loopg [5] n (fun g s5 wx => ∃ i : Nat, i + g = n ∧ s5 = .int .i64 i ∧ Below w.heap.size w wx ∧ Hid (∀ j, j < i → xs.getD j 0 = ys.getD j 0))
    case atStart => exact ⟨0, by omega, rfl, Below.refl _ _, fun j hj => by omega⟩
    case round =>
      obtain ⟨i, hig, rfl, hB, HA⟩ := hrel
      cases gk with
      | zero =>
        have hlt : ¬ ((i : Int) < n) := by omega
        have HK : Hid (i = n) := by show i = n; omega
        clear hig
        go_wp2
        go_ret
        exact ⟨congrArg (fun b => Ending.returned (Value.bool b)) (show true = decide (xs = ys) from (decide_eq_true (eq_of_at HN.out fun j hj => HA.out j (by rw [HK.out, ← HX.out]; exact hj))).symm), hB⟩
      | succ g =>
        have hlt : (i : Int) < n := by omega
        obtain ⟨b1, o1, rfl, c1⟩ := HS.out (by rw [HX.out]; omega)
        obtain ⟨b2, o2, rfl, c2⟩ := HT.out (by rw [← HN.out, HX.out]; omega)
        have k1 := (hB.cell (p := ⟨b1, o1 + i, none⟩) (cell_lt (c1 i (by rw [HX.out]; omega)))).trans (c1 i (by rw [HX.out]; omega))
        have k2 := (hB.cell (p := ⟨b2, o2 + i, none⟩) (cell_lt (c2 i (by rw [← HN.out, HX.out]; omega)))).trans (c2 i (by rw [← HN.out, HX.out]; omega))
        clear c1 c2
        have HZ : Hid (xs.getD i 0 = ys.getD i 0 ∨ xs.getD i 0 ≠ ys.getD i 0) := Classical.em _
        obtain ⟨z1, hz1⟩ : ∃ z1, xs.getD i 0 = z1 := ⟨_, rfl⟩
        obtain ⟨z2, hz2⟩ : ∃ z2, ys.getD i 0 = z2 := ⟨_, rfl⟩
        rw [hz1] at k1
        rw [hz2] at k2
        have HZ1 : Hid (xs.getD i 0 = z1) := hz1
        have HZ2 : Hid (ys.getD i 0 = z2) := hz2
        clear hz1 hz2
        by_cases hz : z1 = z2
        · subst hz
          go_wp2
          go_quiet ((fail))
          go_wp2
          go_roundg g
          case measure => omega
          case rel => exact ⟨i + 1, by omega, by go_num, hB.trans ((below_drewN _ _).mono hB.size), fun j hj => by
            rcases Nat.lt_or_ge j i with h | h
            · exact HA.out j h
            · obtain rfl : j = i := by omega
              exact HZ1.out.trans HZ2.out.symm⟩
        · have hzb : (z1 == z2) = false := by simpa using hz
          go_wp2
          go_quiet ((fail))
          go_wp2
          go_ret
          exact ⟨congrArg (fun b => Ending.returned (Value.bool b)) (show false = decide (xs = ys) from (decide_eq_false (ne_of_at (j := i) (by rw [HZ1.out, HZ2.out]; exact hz))).symm), hB.trans ((below_drewN _ _).mono hB.size)⟩
  · have hb : (((xs.length : Nat) : Int) == ((ys.length : Nat) : Int)) = false := by simpa using (by omega : ¬ ((xs.length : Int) = ys.length))
    go_enter Tryz.func14, Tryz.ntmps14
    go_wp2
    go_ret
    exact ⟨congrArg (fun b => Ending.returned (Value.bool b)) (show false = decide (xs = ys) from (decide_eq_false fun e => hne (by rw [e])).symm), Below.refl _ _⟩
theorem neq_ins (o a b c o' a' b' c' : Int) (w : World) :
    (binOp .neq 64 (.agg #[.int .u8 o, .int .u8 a, .int .u8 b, .int .u8 c]) (.agg #[.int .u8 o', .int .u8 a', .int .u8 b', .int .u8 c'])).run Tryz.prog w = .ok (.bool (!(o == o' && (a == a' && (b == b' && c == c'))))) w := by
  by_cases h1 : o = o' <;> by_cases h2 : a = a' <;> by_cases h3 : b = b' <;> by_cases h4 : c = c' <;>
    simp [go_sem, h1, h2, h3, h4]
theorem four_at {xs ys : List Int} {k : Nat} (hl : xs.length = 4 * k) (hl2 : ys.length = 4 * k) (h : ∀ j, j < k → (xs.getD (4 * j) 0 = ys.getD (4 * j) 0 ∧ xs.getD (4 * j + 1) 0 = ys.getD (4 * j + 1) 0 ∧ xs.getD (4 * j + 2) 0 = ys.getD (4 * j + 2) 0 ∧ xs.getD (4 * j + 3) 0 = ys.getD (4 * j + 3) 0)) : xs = ys := by
  refine eq_of_at (by omega) fun j hj => ?_
  have := h (j / 4) (by omega)
  obtain h0 | h0 | h0 | h0 : j % 4 = 0 ∨ j % 4 = 1 ∨ j % 4 = 2 ∨ j % 4 = 3 := by omega
  · have e : 4 * (j / 4) = j := by omega
    rw [e] at this; exact this.1
  · have e : 4 * (j / 4) + 1 = j := by omega
    rw [e] at this; exact this.2.1
  · have e : 4 * (j / 4) + 2 = j := by omega
    rw [e] at this; exact this.2.2.1
  · have e : 4 * (j / 4) + 3 = j := by omega
    rw [e] at this; exact this.2.2.2
set_option maxHeartbeats 4000000 in
theorem sameI_any {w : World} {sp tp : Option Addr} {xs ys : List Int} {k k' : Nat} (hs : Src w sp xs) (ht : Src w tp ys) (hk : xs.length = 4 * k) (hk' : ys.length = 4 * k') (hl : k ≤ 1000000) (hl2 : k' ≤ 1000000) (c d : Nat) :
    Calls Tryz.prog 67 #[.slice sp k c, .slice tp k' d] w fun e w' => e = .returned (.bool (decide (xs = ys))) ∧ Below w.heap.size w w' := by
  by_cases hne : k = k'
  · subst hne
    have HS : Hid (Src w sp xs) := hs
    have HT : Hid (Src w tp ys) := ht
    have HX : Hid (xs.length = 4 * k ∧ ys.length = 4 * k) := ⟨hk, hk'⟩
    have hne := neq_ins
    clear hs ht hk hk' hl2
    go_enter Tryz.func67, Tryz.ntmps67
    go_wp2
    go_loopg [5] k (fun g s5 wx => ∃ i : Nat, i + g = k ∧ s5 = .int .i64 i ∧ Below w.heap.size w wx ∧ Hid (∀ j, j < i → (xs.getD (4 * j) 0 = ys.getD (4 * j) 0 ∧ xs.getD (4 * j + 1) 0 = ys.getD (4 * j + 1) 0 ∧ xs.getD (4 * j + 2) 0 = ys.getD (4 * j + 2) 0 ∧ xs.getD (4 * j + 3) 0 = ys.getD (4 * j + 3) 0)))
    case atStart => exact ⟨0, by omega, rfl, Below.refl _ _, fun j hj => by omega⟩
    case round =>
      obtain ⟨i, hig, rfl, hB, HA⟩ := hrel
      cases gk with
      | zero =>
        have hlt : ¬ ((i : Int) < k) := by omega
        have HK : Hid (i = k) := by show i = k; omega
        clear hig
        go_wp2
        go_ret
        exact ⟨congrArg (fun b => Ending.returned (Value.bool b)) (show true = decide (xs = ys) from (decide_eq_true (four_at HX.out.1 HX.out.2 fun j hj => HA.out j (by rw [HK.out]; exact hj))).symm), hB⟩
      | succ g =>
        have hlt : (i : Int) < k := by omega
        obtain ⟨b1, o1, rfl, hb1⟩ := HS.out.spot (by rw [HX.out.1]; omega)
        obtain ⟨b2, o2, rfl, hb2⟩ := HT.out.spot (by rw [HX.out.2]; omega)
        obtain ⟨p0, p1, p2, p3⟩ := (HS.out.below hB).quad HX.out.1 (show i < k by omega)
        obtain ⟨q0, q1, q2, q3⟩ := (HT.out.below hB).quad HX.out.2 (show i < k by omega)
        by_cases hz : xs.getD (4 * i) 0 = ys.getD (4 * i) 0 ∧ xs.getD (4 * i + 1) 0 = ys.getD (4 * i + 1) 0 ∧ xs.getD (4 * i + 2) 0 = ys.getD (4 * i + 2) 0 ∧ xs.getD (4 * i + 3) 0 = ys.getD (4 * i + 3) 0
        · rw [hz.1] at p0
          rw [hz.2.1] at p1
          rw [hz.2.2.1] at p2
          rw [hz.2.2.2] at p3
          have HZ : Hid (xs.getD (4 * i) 0 = ys.getD (4 * i) 0 ∧ xs.getD (4 * i + 1) 0 = ys.getD (4 * i + 1) 0 ∧ xs.getD (4 * i + 2) 0 = ys.getD (4 * i + 2) 0 ∧ xs.getD (4 * i + 3) 0 = ys.getD (4 * i + 3) 0) := hz
          clear hz
          generalize ys.getD (4 * i) 0 = z0 at p0 q0
          generalize ys.getD (4 * i + 1) 0 = z1 at p1 q1
          generalize ys.getD (4 * i + 2) 0 = z2 at p2 q2
          generalize ys.getD (4 * i + 3) 0 = z3 at p3 q3
          go_wp2
          go_quiet ((fail))
          go_wp2
          go_roundg g
          case measure => omega
          case rel => exact ⟨i + 1, by omega, by go_num, hB.trans ((below_drewN _ _).mono hB.size), fun j hj => by
            rcases Nat.lt_or_ge j i with h | h
            · exact HA.out j h
            · obtain rfl : j = i := by omega
              exact HZ.out⟩
        · have HN : Hid (xs ≠ ys) := fun e => hz (by rw [e]; exact ⟨rfl, rfl, rfl, rfl⟩)
          have hzb : (xs.getD (4 * i) 0 == ys.getD (4 * i) 0 && (xs.getD (4 * i + 1) 0 == ys.getD (4 * i + 1) 0 && (xs.getD (4 * i + 2) 0 == ys.getD (4 * i + 2) 0 && xs.getD (4 * i + 3) 0 == ys.getD (4 * i + 3) 0))) = false := by
            rw [← Bool.not_eq_true]
            intro h
            simp only [Bool.and_eq_true, beq_iff_eq] at h
            exact hz h
          clear hz
          have hne2 := fun W => hne (xs.getD (4 * i) 0) (xs.getD (4 * i + 1) 0) (xs.getD (4 * i + 2) 0) (xs.getD (4 * i + 3) 0) (ys.getD (4 * i) 0) (ys.getD (4 * i + 1) 0) (ys.getD (4 * i + 2) 0) (ys.getD (4 * i + 3) 0) W
          rw [hzb] at hne2
          clear hne hzb
          generalize xs.getD (4 * i) 0 = y0 at *
          generalize xs.getD (4 * i + 1) 0 = y1 at *
          generalize xs.getD (4 * i + 2) 0 = y2 at *
          generalize xs.getD (4 * i + 3) 0 = y3 at *
          generalize ys.getD (4 * i) 0 = z0 at *
          generalize ys.getD (4 * i + 1) 0 = z1 at *
          generalize ys.getD (4 * i + 2) 0 = z2 at *
          generalize ys.getD (4 * i + 3) 0 = z3 at *
          simp only [Bool.not_false] at hne2
          go_wp2
          go_quiet ((fail))
          go_wp2
          go_ret
          exact ⟨congrArg (fun b => Ending.returned (Value.bool b)) (show false = decide (xs = ys) from (decide_eq_false HN.out).symm), hB.trans ((below_drewN _ _).mono hB.size)⟩
  · have hb : (((k : Nat) : Int) == ((k' : Nat) : Int)) = false := by simpa using (by omega : ¬ ((k : Int) = k'))
    have HN : Hid (xs ≠ ys) := fun e => hne (by rw [e] at hk; omega)
    go_enter Tryz.func67, Tryz.ntmps67
    go_wp2
    go_ret
    exact ⟨congrArg (fun b => Ending.returned (Value.bool b)) (show false = decide (xs = ys) from (decide_eq_false HN.out).symm), Below.refl _ _⟩
theorem cells_box2 {w w1 : World} {a b c a' b' c' : Value} {t t' : TypeId} (h : Below ((w.alloc (.cells #[a, b, c] t)).alloc (.cells #[a', b', c'] t')).heap.size ((w.alloc (.cells #[a, b, c] t)).alloc (.cells #[a', b', c'] t')) w1) :
    w1.cell? ⟨w.heap.size, 0, none⟩ = some a ∧ w1.cell? ⟨w.heap.size, 1, none⟩ = some b ∧ w1.cell? ⟨w.heap.size, 2, none⟩ = some c :=
  cells_box (on1 (alloc_below _ _) h |>.mono (Nat.le_refl _))
theorem cells_box3 {w w1 : World} {a b c a' b' c' : Value} {t t' : TypeId} (h : Below ((w.alloc (.cells #[a, b, c] t)).alloc (.cells #[a', b', c'] t')).heap.size ((w.alloc (.cells #[a, b, c] t)).alloc (.cells #[a', b', c'] t')) w1) :
    w1.cell? ⟨w.heap.size + 1, 0, none⟩ = some a' ∧ w1.cell? ⟨w.heap.size + 1, 1, none⟩ = some b' ∧ w1.cell? ⟨w.heap.size + 1, 2, none⟩ = some c' := by
  have := cells_box h
  rwa [alloc_size] at this
/-- two images are the same -/
def sameB (n n' : Int) (ds ds' cs cs' : List Int) : Bool := (n == n') && (decide (ds = ds') && decide (cs = cs'))
theorem sameB_iff (n n' : Int) (ds ds' cs cs' : List Int) : sameB n n' ds ds' cs cs' = true ↔ n = n' ∧ ds = ds' ∧ cs = cs' := by simp [sameB]
set_option maxHeartbeats 4000000 in
theorem sameM_any {w : World} {n n' : Int} {sp sp' cp cp' : Option Addr} {ds ds' cs cs' : List Int} {k k' : Nat} (h : Img w sp ds cp cs k) (h' : Img w sp' ds' cp' cs' k') (hd : ds.length ≤ 1000000) (hd' : ds'.length ≤ 1000000) (hk : k ≤ 1000000) (hk' : k' ≤ 1000000) (dc dc' kc kc' : Nat) :
    Calls Tryz.prog 22 #[.agg #[.int .i64 n, .slice sp ds.length dc, .slice cp k kc], .agg #[.int .i64 n', .slice sp' ds'.length dc', .slice cp' k' kc']] w fun e w' => e = .returned (.bool (sameB n n' ds ds' cs cs')) ∧ Below w.heap.size w w' := by
  have cB : ∀ W, Below w.heap.size w W → _ := fun W hW => same_any (h.on hW).d (h'.on hW).d hd hd' dc dc'
  have cI : ∀ W, Below w.heap.size w W → _ := fun W hW => sameI_any (h.on hW).c (h'.on hW).c h.len h'.len hk hk' kc kc'
  have hb0 : Below w.heap.size w ((w.alloc (.cells #[.int .i64 n, .slice sp ds.length dc, .slice cp k kc] 25)).alloc (.cells #[.int .i64 n', .slice sp' ds'.length dc', .slice cp' k' kc'] 25)) := on1 (alloc_below _ _) (alloc_below _ _)
  unfold sameB
  by_cases hn : n = n'
  · subst hn
    rw [beq_self_eq_true, Bool.true_and]
    cases he : decide (ds = ds') with
    | true =>
      rw [Bool.true_and]
      rw [he] at cB
      generalize decide (cs = cs') = r at *
      clear h h' he
      go_enter Tryz.func22, Tryz.ntmps22
      go_wp2_with (first
        | (go_at_call 14; refine (cB _ hb0).mono ?_; rintro e w1 ⟨rfl, hb1⟩; obtain ⟨x0, x1, x2⟩ := cells_box2 hb1; obtain ⟨y0, y1, y2⟩ := cells_box3 hb1)
        | (go_at_call 67; refine (cI _ (on1 hb0 hb1)).mono ?_; rintro e w2 ⟨rfl, hb2⟩))
      go_ret
      exact ⟨rfl, on1 (on1 hb0 hb1) hb2⟩
    | false =>
      rw [Bool.false_and]
      rw [he] at cB
      clear h h' he
      go_enter Tryz.func22, Tryz.ntmps22
      go_wp2_with (go_at_call 14; refine (cB _ hb0).mono ?_; rintro e w1 ⟨rfl, hb1⟩)
      go_ret
      exact ⟨rfl, on1 hb0 hb1⟩
  · have hf : (n == n') = false := by simpa using hn
    rw [hf, Bool.false_and]
    clear h h'
    go_enter Tryz.func22, Tryz.ntmps22
    go_wp2
    go_ret
    exact ⟨rfl, hb0⟩
end Go.Proofs.YtcjghnnliepjjaaGreatDoor
