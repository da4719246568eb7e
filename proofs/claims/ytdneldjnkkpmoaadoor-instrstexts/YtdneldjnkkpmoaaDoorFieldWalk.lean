/- The document's own reading of one field. -/
import Derived.Test.YtdneldjnkkpmoaaDoorPartsWalk
import Derived.Laws.Strings3
namespace Go.Proofs.YtdneldjnkkpmoaaDoor
open Go Go.RowKit
set_option maxRecDepth 100000
set_option linter.unusedVariables false
theorem sl_tail (s : ByteArray) (h : 1 ≤ s.size) (W : World) : (Instr.slice 9 (.string s) (some (.int .i64 1)) none none).run Tryd.prog W = .ok (.string (mk s.data.toList.tail)) W := by
  have h1 := run_slice_string_from_if (P := Tryd.prog) W 9 s .i64 1 Tryd.underlying9
  rw [if_pos (by omega), show ((1 : Int).toNat) = 1 from rfl, cut_mk, size_data, List.take_length, List.drop_one] at h1
  exact h1
def FieldPost (k : Nat) (s : ByteArray) (w : World) (e : Ending) (w' : World) : Prop :=
  ∃ v, e = .returned (.tuple #[v, .bool (frd k s.data.toList).isSome]) ∧ Below w.heap.size w w' ∧ ∀ n, frd k s.data.toList = some n → v = .slice (some ⟨w.heap.size, 0, none⟩) (kSz k) (kSz k) ∧ w' = w.alloc (.cells (ints (kBytes k n)).toArray 5)
theorem post_none {k : Nat} {s : ByteArray} {w : World} {e : Ending} {w' : World} (v : Value) (hf : frd k s.data.toList = none) (he : e = .returned (.tuple #[v, .bool false])) (hb : Below w.heap.size w w') : FieldPost k s w e w' := by
  refine ⟨v, by rw [he, hf]; rfl, hb, ?_⟩
  intro n h; rw [hf] at h; cases h
theorem post_some {k : Nat} {s : ByteArray} {w : World} {e : Ending} {w' : World} (n : Int) (hf : frd k s.data.toList = some n) (he : e = .returned (.tuple #[.slice (some ⟨w.heap.size, 0, none⟩) (kSz k) (kSz k), .bool true])) (hw : w' = w.alloc (.cells (ints (kBytes k n)).toArray 5)) : FieldPost k s w e w' := by
  refine ⟨_, by rw [he, hf]; rfl, by rw [hw]; exact (Below.refl _ _).alloc (Nat.le_refl _) _, ?_⟩
  intro m h
  rw [hf] at h
  obtain rfl := Option.some.inj h
  exact ⟨rfl, hw⟩
theorem one_cell (k : Nat) (hk : k ≠ 4) (n m : Int) (h : n % 256 = m) : (ints (kBytes k n)).toArray = #[.int .u8 m] := by
  unfold kBytes ints; rw [if_neg hk, h]; rfl
theorem two_cell (n x y : Int) (h : n / 256 = x) (h2 : n % 256 = y) : (ints (kBytes 4 n)).toArray = #[.int .u8 x, .int .u8 y] := by
  unfold kBytes ints; rw [if_pos rfl, h, h2]; rfl
theorem nonempty (s : ByteArray) (h0 : s.size ≠ 0) : (s.toList == ([] : List UInt8)) = false := by
  rw [beq_eq_false_iff_ne, Lib.toList_data]
  intro e
  have hsd := size_data s
  rw [e] at hsd
  exact h0 hsd
theorem empty_is (s : ByteArray) (h0 : s.size = 0) : s = ⟨#[]⟩ := by
  have hsd := size_data s
  have e : s.data.toList = [] := List.eq_nil_of_length_eq_zero (by omega)
  rw [← data_mk s, e]; rfl
theorem head_at (s : ByteArray) (h : 0 < s.size) : s.data.toList.head? = some (s[0]'h) := by rw [List.head?_eq_getElem?, byte_at s 0 h]
theorem head_no (s : ByteArray) (h : 0 < s.size) (c : UInt8) (hn : s.data.toList.head? ≠ some c) : (((s[0]'h).toNat : Int) == (c.toNat : Int)) = false := by
  rw [beq_eq_false_iff_ne]
  intro e
  exact hn (by rw [head_at s h]; exact congrArg some (UInt8.toNat_inj.1 (by omega)))
theorem head_yes (s : ByteArray) (h : 0 < s.size) (c : UInt8) (hn : s.data.toList.head? = some c) : ((s[0]'h).toNat : Int) = (c.toNat : Int) := by
  rw [head_at s h] at hn
  rw [Option.some.inj hn]
theorem tail_size (s : ByteArray) (hs : s.size ≤ 1048576) : (mk s.data.toList.tail).size ≤ 1048576 := by
  rw [mk_size, List.length_tail, ← size_data]; omega
set_option maxHeartbeats 2000000 in
theorem field_b (k : Nat) (c : UInt8) (hk : (k = 2 ∧ c = 98) ∨ (k = 5 ∧ c = 119)) (s : ByteArray) (hs : s.size ≤ 1048576) (w : World) :
    Calls Tryd.prog 29 #[.int .u8 c.toNat, .string s] w (FieldPost k s w) := by
  obtain ⟨n, hn⟩ : ∃ n, numb s.data.toList 255 = n := ⟨_, rfl⟩
  have cN := number_any s hs 255 (by omega)
  have hbd := numb_bd s.data.toList 255 (by omega)
  rw [hn] at cN hbd
  have HF : Hid (frd k s.data.toList = opt n) := by
    show _ = _
    rw [← hn]
    rcases hk with ⟨rfl, _⟩ | ⟨rfl, _⟩ <;> rfl
  clear hn
  by_cases h0 : 0 ≤ n
  · have HS : Hid (frd k s.data.toList = some n) := by show _ = _; rw [HF.out, opt, if_neg (by omega)]
    rcases hk with ⟨rfl, rfl⟩ | ⟨rfl, rfl⟩
    all_goals
      go_enter Tryd.func29, Tryd.ntmps29
      go_wp2_with (go_at_call 40; refine (cN _).mono ?_; rintro e w1 ⟨rfl, rfl⟩)
      go_ret2
      exact post_some n HS.out (by simp [kSz]) (by rw [one_cell _ (by decide) n n (by omega)])
  · have HS : Hid (frd k s.data.toList = none) := by show _ = _; rw [HF.out, opt, if_pos (by omega)]
    rcases hk with ⟨rfl, rfl⟩ | ⟨rfl, rfl⟩
    all_goals
      go_enter Tryd.func29, Tryd.ntmps29
      go_wp2_with (go_at_call 40; refine (cN _).mono ?_; rintro e w1 ⟨rfl, rfl⟩)
      go_ret2
      exact post_none _ HS.out (by simp [h0]; rfl) ((Below.refl _ _).alloc (Nat.le_refl _) _)
set_option maxHeartbeats 2000000 in
theorem field_n (s : ByteArray) (hs : s.size ≤ 1048576) (w : World) : Calls Tryd.prog 29 #[.int .u8 110, .string s] w (FieldPost 4 s w) := by
  obtain ⟨n, hn⟩ : ∃ n, numb s.data.toList 65535 = n := ⟨_, rfl⟩
  have cN := number_any s hs 65535 (by omega)
  have hbd := numb_bd s.data.toList 65535 (by omega)
  rw [hn] at cN hbd
  have HF : Hid (frd 4 s.data.toList = opt n) := by show _ = _; rw [← hn]; rfl
  clear hn
  by_cases h0 : 0 ≤ n
  · have HS : Hid (frd 4 s.data.toList = some n) := by show _ = _; rw [HF.out, opt, if_neg (by omega)]
    go_enter Tryd.func29, Tryd.ntmps29
    go_wp2_with (go_at_call 40; refine (cN _).mono ?_; rintro e w1 ⟨rfl, rfl⟩)
    go_ret2
    exact post_some n HS.out (by simp [kSz]) (by rw [two_cell n (n / 256) (n % 256) rfl rfl])
  · have HS : Hid (frd 4 s.data.toList = none) := by show _ = _; rw [HF.out, opt, if_pos (by omega)]
    go_enter Tryd.func29, Tryd.ntmps29
    go_wp2_with (go_at_call 40; refine (cN _).mono ?_; rintro e w1 ⟨rfl, rfl⟩)
    go_ret2
    exact post_none _ HS.out (by simp [h0]; rfl) ((Below.refl _ _).alloc (Nat.le_refl _) _)
set_option maxHeartbeats 2000000 in
theorem field_r (s : ByteArray) (hs : s.size ≤ 1048576) (w : World) : Calls Tryd.prog 29 #[.int .u8 114, .string s] w (FieldPost 1 s w) := by
  by_cases hh : s.data.toList.head? = some 114
  · have hpos : 0 < s.size := by
      rcases Nat.eq_zero_or_pos s.size with h | h
      · rw [empty_is s h] at hh; cases hh
      · exact h
    have hq := nonempty s (by omega)
    have hy : ((s[0]'hpos).toNat : Int) = 114 := head_yes s hpos 114 hh
    have hsl := sl_tail s hpos
    obtain ⟨n, hn⟩ : ∃ n, numb (mk s.data.toList.tail).data.toList 7 = n := ⟨_, rfl⟩
    have cN := number_any (mk s.data.toList.tail) (tail_size s hs) 7 (by omega)
    have hbd := numb_bd (mk s.data.toList.tail).data.toList 7 (by omega)
    rw [hn] at cN hbd
    have HF : Hid (frd 1 s.data.toList = opt n) := by
      show (if s.data.toList.head? = some 114 then opt (numb s.data.toList.tail 7) else none) = _
      rw [if_pos hh, ← hn, mk_data]
    clear hn hh
    generalize mk s.data.toList.tail = D at *
    by_cases h0 : 0 ≤ n
    · have HS : Hid (frd 1 s.data.toList = some n) := by show _ = _; rw [HF.out, opt, if_neg (by omega)]
      go_enter Tryd.func29, Tryd.ntmps29
      go_wp2_with (go_at_call 40; refine (cN _).mono ?_; rintro e w1 ⟨rfl, rfl⟩)
      go_ret2
      exact post_some n HS.out (by simp [kSz]) (by rw [one_cell _ (by decide) n n (by omega)])
    · have HS : Hid (frd 1 s.data.toList = none) := by show _ = _; rw [HF.out, opt, if_pos (by omega)]
      go_enter Tryd.func29, Tryd.ntmps29
      go_wp2_with (go_at_call 40; refine (cN _).mono ?_; rintro e w1 ⟨rfl, rfl⟩)
      go_ret2
      exact post_none _ HS.out (by simp [h0]; rfl) ((Below.refl _ _).alloc (Nat.le_refl _) _)
  · have HS : Hid (frd 1 s.data.toList = none) := by
      show (if s.data.toList.head? = some 114 then opt (numb s.data.toList.tail 7) else none) = _
      rw [if_neg hh]
    by_cases hz : s.size = 0
    · obtain rfl := empty_is s hz
      clear hh
      go_enter Tryd.func29, Tryd.ntmps29
      go_wp2
      go_ret2
      exact post_none _ HS.out (by rfl) (Below.refl _ _)
    · have hpos : 0 < s.size := by omega
      have hq := nonempty s (by omega)
      have hy : (((s[0]'hpos).toNat : Int) == 114) = false := head_no s hpos 114 hh
      clear hh
      go_enter Tryd.func29, Tryd.ntmps29
      go_wp2
      go_ret2
      exact post_none _ HS.out (by rfl) (Below.refl _ _)
set_option maxHeartbeats 2000000 in
theorem field_s (s : ByteArray) (hs : s.size ≤ 1048576) (w : World) : Calls Tryd.prog 29 #[.int .u8 115, .string s] w (FieldPost 3 s w) := by
  have HU : Hid (frd 3 s.data.toList = if s.data.toList.head? = some 45 then (if numb s.data.toList.tail 128 ≤ 0 then none else some (- numb s.data.toList.tail 128)) else opt (numb s.data.toList 127)) := rfl
  by_cases hh : s.data.toList.head? = some 45
  · have hpos : 0 < s.size := by
      rcases Nat.eq_zero_or_pos s.size with h | h
      · rw [empty_is s h] at hh; cases hh
      · exact h
    have hq := nonempty s (by omega)
    have hy : ((s[0]'hpos).toNat : Int) = 45 := head_yes s hpos 45 hh
    have hsl := sl_tail s hpos
    obtain ⟨n, hn⟩ : ∃ n, numb (mk s.data.toList.tail).data.toList 128 = n := ⟨_, rfl⟩
    have cN := number_any (mk s.data.toList.tail) (tail_size s hs) 128 (by omega)
    have hbd := numb_bd (mk s.data.toList.tail).data.toList 128 (by omega)
    rw [hn] at cN hbd
    have HF : Hid (frd 3 s.data.toList = if n ≤ 0 then none else some (- n)) := by
      show _ = _
      rw [HU.out, if_pos hh, ← hn, mk_data]
    clear hn hh HU
    generalize mk s.data.toList.tail = D at *
    by_cases h0 : n ≤ 0
    · have HS : Hid (frd 3 s.data.toList = none) := by show _ = _; rw [HF.out, if_pos h0]
      go_enter Tryd.func29, Tryd.ntmps29
      go_wp2_with (go_at_call 40; refine (cN _).mono ?_; rintro e w1 ⟨rfl, rfl⟩)
      go_ret2
      exact post_none _ HS.out (by rfl) (Below.refl _ _)
    · have HS : Hid (frd 3 s.data.toList = some (-n)) := by show _ = _; rw [HF.out, if_neg h0]
      go_enter Tryd.func29, Tryd.ntmps29
      go_wp2_with (go_at_call 40; refine (cN _).mono ?_; rintro e w1 ⟨rfl, rfl⟩)
      go_ret2
      exact post_some (-n) HS.out (by simp [kSz]; try omega) (by rw [one_cell _ (by decide) (-n) (256 - n) (by omega)])
  · obtain ⟨n, hn⟩ : ∃ n, numb s.data.toList 127 = n := ⟨_, rfl⟩
    have cN := number_any s hs 127 (by omega)
    have hbd := numb_bd s.data.toList 127 (by omega)
    rw [hn] at cN hbd
    have HF : Hid (frd 3 s.data.toList = opt n) := by show _ = _; rw [HU.out, if_neg hh, ← hn]
    clear hn HU
    by_cases hz : s.size = 0
    · obtain rfl := empty_is s hz
      clear hh
      by_cases h0 : 0 ≤ n
      · have HS : Hid (frd 3 (⟨#[]⟩ : ByteArray).data.toList = some n) := by show _ = _; rw [HF.out, opt, if_neg (by omega)]
        go_enter Tryd.func29, Tryd.ntmps29
        go_wp2_with (go_at_call 40; refine (cN _).mono ?_; rintro e w1 ⟨rfl, rfl⟩)
        go_ret2
        exact post_some n HS.out (by simp [kSz]) (by rw [one_cell _ (by decide) n n (by omega)])
      · have HS : Hid (frd 3 (⟨#[]⟩ : ByteArray).data.toList = none) := by show _ = _; rw [HF.out, opt, if_pos (by omega)]
        go_enter Tryd.func29, Tryd.ntmps29
        go_wp2_with (go_at_call 40; refine (cN _).mono ?_; rintro e w1 ⟨rfl, rfl⟩)
        go_ret2
        exact post_none _ HS.out (by simp [h0]; rfl) ((Below.refl _ _).alloc (Nat.le_refl _) _)
    · have hpos : 0 < s.size := by omega
      have hq := nonempty s (by omega)
      have hy : (((s[0]'hpos).toNat : Int) == 45) = false := head_no s hpos 45 hh
      clear hh
      by_cases h0 : 0 ≤ n
      · have HS : Hid (frd 3 s.data.toList = some n) := by show _ = _; rw [HF.out, opt, if_neg (by omega)]
        go_enter Tryd.func29, Tryd.ntmps29
        go_wp2_with (go_at_call 40; refine (cN _).mono ?_; rintro e w1 ⟨rfl, rfl⟩)
        go_ret2
        exact post_some n HS.out (by simp [kSz]) (by rw [one_cell _ (by decide) n n (by omega)])
      · have HS : Hid (frd 3 s.data.toList = none) := by show _ = _; rw [HF.out, opt, if_pos (by omega)]
        go_enter Tryd.func29, Tryd.ntmps29
        go_wp2_with (go_at_call 40; refine (cN _).mono ?_; rintro e w1 ⟨rfl, rfl⟩)
        go_ret2
        exact post_none _ HS.out (by simp [h0]; rfl) ((Below.refl _ _).alloc (Nat.le_refl _) _)
theorem field_any (k : Nat) (h1 : 1 ≤ k) (h5 : k ≤ 5) (s : ByteArray) (hs : s.size ≤ 1048576) (w : World) : Calls Tryd.prog 29 #[.int .u8 ((kChar k).toNat : Nat), .string s] w (FieldPost k s w) := by
  obtain rfl | rfl | rfl | rfl | rfl : k = 1 ∨ k = 2 ∨ k = 3 ∨ k = 4 ∨ k = 5 := by omega
  · exact field_r s hs w
  · exact field_b 2 98 (Or.inl ⟨rfl, rfl⟩) s hs w
  · exact field_s s hs w
  · exact field_n s hs w
  · exact field_b 5 119 (Or.inr ⟨rfl, rfl⟩) s hs w
end Go.Proofs.YtdneldjnkkpmoaaDoor
