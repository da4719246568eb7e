/- The document's own lines, as they lie in memory, and what their functions answer. -/
import Derived.Test.YtedheamenlnfkaaTop
namespace Go.Proofs.Ytedheamenlnfkaa
open Go Go.RowKit
set_option maxRecDepth 100000
set_option linter.unusedVariables false
/-- the document's own lines at block q -/
structure Ref (w : World) (q c m : Nat) : Prop where
  lay : ∃ cs, w.heap[q]? = some (.cells cs 28 (0, 0)) ∧ ∀ i, i < 8 → cs[i]? = some (.bool (c.testBit i)) ∧ cs[8 + i]? = some (.bool (m.testBit i))
  hc : c < 256
  hm : m < 256
theorem Ref.lt {w : World} {q c m : Nat} (h : Ref w q c m) : q < w.heap.size := by
  obtain ⟨cs, h0, _⟩ := h.lay
  exact at_lt h0
theorem Ref.ca {w : World} {q c m : Nat} (h : Ref w q c m) (i : Nat) (hi : i < 8) : w.cell? ⟨q, i, none⟩ = some (.bool (c.testBit i)) := by
  obtain ⟨cs, h0, h1⟩ := h.lay
  rw [cell_of h0, (h1 i hi).1]
theorem Ref.ma {w : World} {q c m : Nat} (h : Ref w q c m) (i : Nat) (hi : i < 8) : w.cell? ⟨q, 8 + i, none⟩ = some (.bool (m.testBit i)) := by
  obtain ⟨cs, h0, h1⟩ := h.lay
  rw [cell_of h0, (h1 i hi).2]
theorem Ref.free {w : World} {q c m : Nat} (h : Ref w q c m) (i : Nat) : w.frozen? ⟨q, i, none⟩ = false := by
  obtain ⟨cs, h0, h1⟩ := h.lay
  simp [World.frozen?, h0]
theorem Ref.buts {w w' : World} {q c m : Nat} {l : List Nat} (h : Ref w q c m) (hb : Buts l w w') (hq : q ∉ l) : Ref w' q c m := by
  have hl := h.lt
  obtain ⟨cs, h0, h1⟩ := h.lay
  exact ⟨⟨cs, (hb.block q hl hq).trans h0, h1⟩, h.hc, h.hm⟩
theorem Ref.below {w w' : World} {q c m : Nat} (h : Ref w q c m) (hb : Below w.heap.size w w') : Ref w' q c m := h.buts (l := []) (Buts.of hb) (by simp)
theorem Ref.setC {w : World} {q c m c' : Nat} (h : Ref w q c m) (k : Nat) (b : Bool) (hk : k < 8) (hc' : c' < 256) (e : ∀ j, j < 8 → c'.testBit j = if j = k then b else c.testBit j) : Ref (w.setCell ⟨q, k, none⟩ (.bool b)) q c' m := by
  obtain ⟨cs, h0, h1⟩ := h.lay
  refine ⟨⟨_, set_block h0 k _, fun i hi => ?_⟩, hc', h.hm⟩
  have := h1 i hi
  rw [e i hi]
  by_cases x : i = k
  · subst x
    rw [if_pos rfl, Array.getElem?_setIfInBounds_self_of_lt (get_lt this.1), Array.getElem?_setIfInBounds_ne (by omega)]
    exact ⟨rfl, this.2⟩
  · rw [if_neg x, Array.getElem?_setIfInBounds_ne (by omega), Array.getElem?_setIfInBounds_ne (by omega)]
    exact this
theorem Ref.setM {w : World} {q c m m' : Nat} (h : Ref w q c m) (k : Nat) (b : Bool) (hk : k < 8) (hm' : m' < 256) (e : ∀ j, j < 8 → m'.testBit j = if j = k then b else m.testBit j) : Ref (w.setCell ⟨q, 8 + k, none⟩ (.bool b)) q c m' := by
  obtain ⟨cs, h0, h1⟩ := h.lay
  refine ⟨⟨_, set_block h0 _ _, fun i hi => ?_⟩, h.hc, hm'⟩
  have := h1 i hi
  rw [e i hi]
  by_cases x : i = k
  · subst x
    rw [if_pos rfl, Array.getElem?_setIfInBounds_self_of_lt (get_lt this.2), Array.getElem?_setIfInBounds_ne (by omega)]
    exact ⟨this.1, rfl⟩
  · rw [if_neg x, Array.getElem?_setIfInBounds_ne (by omega), Array.getElem?_setIfInBounds_ne (by omega)]
    exact this
theorem st_if (c k j : Nat) : (st c k).testBit j = if j = k then true else c.testBit j := by
  rw [st_bit]
  by_cases e : j = k <;> simp [e]
theorem cl_if {c k : Nat} (hc : c < 256) (hk : k < 8) (j : Nat) : (cl c k).testBit j = if j = k then false else c.testBit j := by
  rw [cl_bit hc hk]
  by_cases e : j = k <;> simp [e]
theorem raise_if {c : Nat} {k : Nat} (hk : k < 8) (j : Nat) : (raiseC c (k : Int)).testBit j = if j = k then true else c.testBit j := by rw [raiseC_nat c hk]; exact st_if c k j
theorem mask_if {m : Nat} (hm : m < 256) {k : Nat} (hk : k < 8) (on : Bool) (j : Nat) : (maskM m (k : Int) on).testBit j = if j = k then on else m.testBit j := by
  cases on
  · rw [maskM_off m hk]; exact cl_if hm hk j
  · rw [maskM_on m hk]; exact st_if m k j
theorem rraise_any {w : World} {q c m : Nat} (H : Ref w q c m) (r : Int) :
    Calls Try.prog 11 #[.pointer (some ⟨q, 0, none⟩), .int .i64 r] w fun e w' => e = .returned (.int .i64 (lnE r)) ∧ Ref w' q (raiseC c r) m ∧ Buts [q] w w' := by
  by_cases h : 0 ≤ r ∧ r < 8
  · obtain ⟨k, rfl⟩ := Int.eq_ofNat_of_zero_le h.1
    have hk : k < 8 := by omega
    have hkI : (k : Int) < 8 := by omega
    have HE : Hid (Ref (w.setCell ⟨q, k, none⟩ (.bool true)) q (raiseC c (k : Int)) m) := H.setC k true hk (raiseC_lt H.hc _) (fun j _ => raise_if hk j)
    have HB := Buts.cell w q k (.bool true)
    have c1 := H.ca k hk
    have c2 := H.free k
    rw [lnE_nat hk]
    clear h H
    generalize c.testBit k = b at *
    go_enter Try.func11, Try.ntmps11
    go_wp2
    go_ret
    exact ⟨rfl, HE.out, HB⟩
  · have q0 : ¬ ln r = true := by simpa [ln] using h
    have e1 : lnE r = 1 := if_neg q0
    have HE : Hid (Ref w q (raiseC c r) m) := by show Ref _ _ _ _; unfold raiseC; rw [if_neg q0]; exact H
    rw [e1]
    clear H q0 e1
    by_cases h1 : r < 0
    · clear h
      go_enter Try.func11, Try.ntmps11
      go_wp2
      go_ret
      exact ⟨rfl, HE.out, Buts.refl _ _⟩
    · have h2 : ¬ r < 8 := by omega
      clear h
      go_enter Try.func11, Try.ntmps11
      go_wp2
      go_ret
      exact ⟨rfl, HE.out, Buts.refl _ _⟩
theorem rmask_any {w : World} {q c m : Nat} (H : Ref w q c m) (r : Int) (on : Bool) :
    Calls Try.prog 13 #[.pointer (some ⟨q, 0, none⟩), .int .i64 r, .bool on] w fun e w' => e = .returned (.int .i64 (lnE r)) ∧ Ref w' q c (maskM m r on) ∧ Buts [q] w w' := by
  by_cases h : 0 ≤ r ∧ r < 8
  · obtain ⟨k, rfl⟩ := Int.eq_ofNat_of_zero_le h.1
    have hk : k < 8 := by omega
    have hkI : (k : Int) < 8 := by omega
    have HE : Hid (Ref (w.setCell ⟨q, 8 + k, none⟩ (.bool on)) q c (maskM m (k : Int) on)) := H.setM k on hk (maskM_lt H.hm _ _) (fun j _ => mask_if H.hm hk on j)
    have HB := Buts.cell w q (8 + k) (.bool on)
    have c1 := H.ma k hk
    have c2 := H.free (8 + k)
    rw [lnE_nat hk]
    clear h H
    generalize m.testBit k = b at *
    go_enter Try.func13, Try.ntmps13
    go_wp2
    go_ret
    exact ⟨rfl, HE.out, HB⟩
  · have q0 : ¬ ln r = true := by simpa [ln] using h
    have e1 : lnE r = 1 := if_neg q0
    have HE : Hid (Ref w q c (maskM m r on)) := by show Ref _ _ _ _; unfold maskM; rw [if_neg q0]; exact H
    rw [e1]
    clear H q0 e1
    by_cases h1 : r < 0
    · clear h
      go_enter Try.func13, Try.ntmps13
      go_wp2
      go_ret
      exact ⟨rfl, HE.out, Buts.refl _ _⟩
    · have h2 : ¬ r < 8 := by omega
      clear h
      go_enter Try.func13, Try.ntmps13
      go_wp2
      go_ret
      exact ⟨rfl, HE.out, Buts.refl _ _⟩
set_option maxHeartbeats 1000000 in
theorem rnext_any {w : World} {q c m : Nat} (H : Ref w q c m) :
    Calls Try.prog 15 #[.pointer (some ⟨q, 0, none⟩)] w fun e w' => e = .returned (.tuple #[.int .i64 (nextL c m : Nat), .int .i64 (nextE c m)]) ∧ Ref w' q (nextC c m) m ∧ Buts [q] w w' := by
  obtain ⟨k, hk⟩ : ∃ k, lw (bt c m) = k := ⟨_, rfl⟩
  have hk8 : k ≤ 8 := by have := lw_le (bt c m); omega
  have HL : Hid (∀ j, j < k → (c.testBit j && !m.testBit j) = false) := fun j hj => by rw [← bt_bit H.hc H.hm]; exact lw_low (by omega)
  have HY : Hid (k < 8 → c.testBit k = true ∧ m.testBit k = false) := fun h => by
    have := lw_yes (x := bt c m) (by omega)
    rw [hk, bt_bit H.hc H.hm] at this
    simpa using this
  have E1 : Hid (k < 8 → nextL c m = k ∧ nextE c m = 0 ∧ nextC c m = cl c k) := fun h => by subst hk; exact ⟨if_pos h, if_pos h, if_pos h⟩
  have E2 : Hid (k = 8 → nextL c m = 0 ∧ nextE c m = 11 ∧ nextC c m = c) := fun h => by subst hk; exact ⟨if_neg (by omega), if_neg (by omega), if_neg (by omega)⟩
  have HT : Hid (Ref w q c m) := H
  clear H hk
  generalize nextL c m = rl at *
  generalize nextE c m = re at *
  generalize nextC c m = rc at *
  go_enter Try.func15, Try.ntmps15
  go_wp2
  go_loopg [4] 8 (fun g s4 wx => ∃ i : Nat, i + g = 8 ∧ i ≤ k ∧ s4 = .int .i64 i ∧ w = wx)
  case atStart => exact ⟨0, by omega, by omega, rfl, rfl⟩
  case round =>
    obtain ⟨i, hig, hik, rfl, rfl⟩ := hrel
    cases gk with
    | zero =>
      obtain rfl : i = 8 := by omega
      obtain ⟨rfl, rfl, rfl⟩ := E2.out (by omega)
      go_wp2
      go_ret2
      exact ⟨rfl, HT.out, Buts.refl _ _⟩
    | succ g =>
      have hi : i < 8 := by omega
      have hiI : (i : Int) < 8 := by omega
      have k1 := HT.out.ca i hi
      have k2 := HT.out.ma i hi
      by_cases e : i = k
      · subst e
        obtain ⟨y1, y2⟩ := HY.out hi
        have HS : Hid (Ref (w.setCell ⟨q, i, none⟩ (.bool false)) q (cl c i) m) := HT.out.setC i false hi cl_lt (fun j _ => cl_if HT.out.hc hi j)
        have HB := Buts.cell w q i (.bool false)
        have hf := HT.out.free i
        obtain ⟨rfl, rfl, rfl⟩ := E1.out hi
        rw [y1] at k1
        rw [y2] at k2
        clear y1 y2
        go_wp2
        go_ret2
        exact ⟨rfl, HS.out, HB⟩
      · have hl := HL.out i (by omega)
        have hik2 : i + 1 ≤ k := by omega
        cases y1 : c.testBit i
        · rw [y1] at k1
          clear y1 hl
          generalize m.testBit i = b at *
          go_wp2
          go_roundg g
          case measure => omega
          case rel => exact ⟨i + 1, by omega, hik2, by go_num, rfl⟩
        · cases y2 : m.testBit i
          · rw [y1, y2] at hl; cases hl
          · rw [y1] at k1
            rw [y2] at k2
            clear y1 y2 hl
            go_wp2
            go_roundg g
            case measure => omega
            case rel => exact ⟨i + 1, by omega, hik2, by go_num, rfl⟩
/-- eight of them, as one value -/
def eight (c : Nat) : Array Value := #[.bool (c.testBit 0), .bool (c.testBit 1), .bool (c.testBit 2), .bool (c.testBit 3), .bool (c.testBit 4), .bool (c.testBit 5), .bool (c.testBit 6), .bool (c.testBit 7)]
theorem eight_at (c i : Nat) (hi : i < 8) : (eight c)[i]? = some (.bool (c.testBit i)) := by
  rcases i with _ | _ | _ | _ | _ | _ | _ | _ | i
  all_goals first | rfl | omega
theorem half_yes {c g : Nat} (h : c.testBit g = true) : 2 * (c / 2 ^ (g + 1)) + 1 = c / 2 ^ g := by
  rw [Nat.testBit_eq_decide_div_mod_eq, decide_eq_true_eq] at h
  rw [Nat.pow_succ, ← Nat.div_div_eq_div_mul]
  omega
theorem half_no {c g : Nat} (h : c.testBit g = false) : 2 * (c / 2 ^ (g + 1)) = c / 2 ^ g := by
  rw [Nat.testBit_eq_decide_div_mod_eq, decide_eq_false_iff_not] at h
  rw [Nat.pow_succ, ← Nat.div_div_eq_div_mul]
  omega
def shr (c g : Nat) : Nat := c / 2 ^ g
set_option maxHeartbeats 1000000 in
theorem rbits_any {c : Nat} (hc : c < 256) (w : World) :
    Calls Try.prog 29 #[.agg (eight c)] w fun e w' => e = .returned (.int .u8 (c : Nat)) ∧ Below w.heap.size w w' := by
  have hA := alloc_at w (.cells (eight c) 26)
  have hb := alloc_below w (.cells (eight c) 26)
  have HC : Hid (∀ i, i < 8 → (w.alloc (.cells (eight c) 26)).cell? ⟨w.heap.size, i, none⟩ = some (.bool (c.testBit i))) := fun i hi => by rw [cell_of hA, eight_at c i hi]
  have HB : Hid (Below w.heap.size w (w.alloc (.cells (eight c) 26))) := hb
  clear hA hb
  have h0 : shr c 8 = 0 := Nat.div_eq_of_lt hc
  have hE : ¬ eight c = #[] := by simp [eight]
  go_enter Try.func29, Try.ntmps29
  go_wp2
  generalize w.alloc (.cells (eight c) 26) = wa at *
  go_loopg [3, 4] 8 (fun g s3 s4 wx => ∃ n : Nat, g ≤ 8 ∧ s4 = .int .i64 ((g : Int) - 1) ∧ s3 = .int .u8 (n : Nat) ∧ Hid (n = shr c g) ∧ wa = wx)
  case atStart => exact ⟨0, by omega, rfl, rfl, h0.symm, rfl⟩
  case round =>
    obtain ⟨n, hg8, rfl, rfl, HN, rfl⟩ := hrel
    cases gk with
    | zero =>
      have e : n = c := by rw [HN.out]; simp [shr]
      subst e
      go_wp2
      go_ret
      exact ⟨rfl, HB.out⟩
    | succ g =>
      have hg : g < 8 := by omega
      have hgI : (g : Int) < 8 := by omega
      rw [show ((g + 1 : Nat) : Int) - 1 = (g : Int) by omega]
      have k1 := HC.out g hg
      have hle : shr c g ≤ c := Nat.div_le_self _ _
      cases y : c.testBit g
      · have hh : 2 * n = shr c g := by rw [HN.out]; exact half_no y
        rw [y] at k1
        have HH : Hid (2 * n = shr c g) := hh
        have hn : n < 128 := by omega
        clear y hh hle
        go_wp2
        go_roundg g
        case measure => omega
        case rel => exact ⟨2 * n, by omega, by go_num, by go_num, HH, rfl⟩
      · have hh : 2 * n + 1 = shr c g := by rw [HN.out]; exact half_yes y
        rw [y] at k1
        have HH : Hid (2 * n + 1 = shr c g) := hh
        have hn : n < 128 := by omega
        clear y hh hle
        go_wp2
        go_roundg g
        case measure => omega
        case rel => exact ⟨2 * n + 1, by omega, by go_num, by go_num, HH, rfl⟩
set_option maxHeartbeats 1000000 in
theorem rcalls_any {w : World} {q c m : Nat} (H : Ref w q c m) :
    Calls Try.prog 17 #[.pointer (some ⟨q, 0, none⟩)] w fun e w' => e = .returned (.int .u8 (c : Nat)) ∧ Below w.heap.size w w' := by
  have hC := rbits_any H.hc w
  unfold eight at hC
  have c0 := H.ca 0 (by decide)
  have c1 := H.ca 1 (by decide)
  have c2 := H.ca 2 (by decide)
  have c3 := H.ca 3 (by decide)
  have c4 := H.ca 4 (by decide)
  have c5 := H.ca 5 (by decide)
  have c6 := H.ca 6 (by decide)
  have c7 := H.ca 7 (by decide)
  clear H
  generalize c.testBit 0 = b0 at *
  generalize c.testBit 1 = b1 at *
  generalize c.testBit 2 = b2 at *
  generalize c.testBit 3 = b3 at *
  generalize c.testBit 4 = b4 at *
  generalize c.testBit 5 = b5 at *
  generalize c.testBit 6 = b6 at *
  generalize c.testBit 7 = b7 at *
  go_enter Try.func17, Try.ntmps17
  go_wp2_with (first | (go_at_call 29; refine hC.mono ?_; rintro e wx ⟨rfl, hb⟩))
  go_ret
  exact ⟨rfl, hb⟩
set_option maxHeartbeats 1000000 in
theorem rmasks_any {w : World} {q c m : Nat} (H : Ref w q c m) :
    Calls Try.prog 19 #[.pointer (some ⟨q, 0, none⟩)] w fun e w' => e = .returned (.int .u8 (m : Nat)) ∧ Below w.heap.size w w' := by
  have hC := rbits_any H.hm w
  unfold eight at hC
  have c0 := H.ma 0 (by decide)
  have c1 := H.ma 1 (by decide)
  have c2 := H.ma 2 (by decide)
  have c3 := H.ma 3 (by decide)
  have c4 := H.ma 4 (by decide)
  have c5 := H.ma 5 (by decide)
  have c6 := H.ma 6 (by decide)
  have c7 := H.ma 7 (by decide)
  clear H
  generalize m.testBit 0 = b0 at *
  generalize m.testBit 1 = b1 at *
  generalize m.testBit 2 = b2 at *
  generalize m.testBit 3 = b3 at *
  generalize m.testBit 4 = b4 at *
  generalize m.testBit 5 = b5 at *
  generalize m.testBit 6 = b6 at *
  generalize m.testBit 7 = b7 at *
  go_enter Try.func19, Try.ntmps19
  go_wp2_with (first | (go_at_call 29; refine hC.mono ?_; rintro e wx ⟨rfl, hb⟩))
  go_ret
  exact ⟨rfl, hb⟩
end Go.Proofs.Ytedheamenlnfkaa
