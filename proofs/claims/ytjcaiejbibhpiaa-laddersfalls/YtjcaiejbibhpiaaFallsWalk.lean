/- LaddersFalls: all that have somebody are told falling, each once; the first of them is First; without it the next one is. -/
import Derived.Test.YtjcaiejbibhpiaaSeen
namespace Go.Proofs.Ytjcaiejbibhpiaa
open Go Go.RowKit
set_option maxRecDepth 100000
set_option linter.unusedVariables false
theorem downs_gt (l : Nat) : ∀ n, (downs l n).Pairwise (fun a b => b < a)
  | 0 => List.Pairwise.nil
  | n + 1 => by
    unfold downs
    split
    · exact List.Pairwise.cons (fun b hb => ((downs_mem l b n).1 hb).1) (downs_gt l n)
    · exact downs_gt l n
theorem told_gt (l : Nat) : (told l).Pairwise (fun a b => b < a) := by
  unfold told
  rw [List.pairwise_map]
  exact (downs_gt l 32).imp fun h => by show (_ : Int) < _; exact Int.ofNat_lt.2 h
theorem told_step {l i : Nat} (h0 : 0 < i) (h : i < (told l).length) : (told l).getD i 0 < (told l).getD (i - 1) 0 := by
  have := List.pairwise_iff_getElem.1 (told_gt l) (i - 1) i (by omega) h (by omega)
  rw [show (told l).getD i 0 = (told l)[i] by simp [h], show (told l).getD (i - 1) 0 = (told l)[i - 1] by simp [show i - 1 < (told l).length by omega]]
  exact this
theorem told_in {l i : Nat} (h : i < (told l).length) : 0 ≤ (told l).getD i 0 ∧ (told l).getD i 0 ≤ 31 := by
  have hm := getD_mem h
  unfold told at hm
  obtain ⟨k, hk, e⟩ := List.mem_map.1 hm
  have := ranks_low hk
  unfold told
  rw [← e]
  exact ⟨Int.natCast_nonneg k, by show (k : Int) ≤ 31; omega⟩
set_option maxHeartbeats 4000000 in
theorem falls_any (L : Nat) (hL : L < 4294967296) (w : World) :
    Calls Try.prog 5 #[.int .u32 (L : Int)] w fun e w' => e = .returned (.bool true) ∧ Below w.heap.size w w' := by
  have n0 := told_le L
  have T1 : Hid (∀ i, 0 < i → i < (told L).length → (told L).getD i 0 < (told L).getD (i - 1) 0) := fun i a b => told_step a b
  have T2 : Hid (∀ i, i < (told L).length → 0 ≤ (told L).getD i 0 ∧ (told L).getD i 0 ≤ 31) := fun i a => told_in a
  go_enter Try.func5, Try.ntmps5
  go_wp2_with (go_at_call 12; refine (list_src L hL _).mono ?_; rintro e w1 ⟨sp, cap, rfl, hs, hB⟩)
  have HS : Hid (Src w1 sp (told L)) := hs
  clear hs
  obtain ⟨n, hn⟩ : ∃ n, (told L).length = n := ⟨_, rfl⟩
  have HN : Hid ((told L).length = n) := hn
  rw [hn] at n0 T1 T2 ⊢
  clear hn
  go_loopg [0, 4] n (fun g s0 s4 wx => ∃ i m : Nat, i + g = n ∧ s0 = .int .u32 (m : Int) ∧ s4 = .int .i64 i ∧ m < 4294967296 ∧ Below w.heap.size w wx ∧ Below w1.heap.size w1 wx ∧ Hid ((told L).drop i = told m))
  case atStart => exact ⟨0, L, by omega, rfl, rfl, hL, hB, Below.refl _ _, by show _ = _; simp⟩
  case round =>
    obtain ⟨i, m, hig, rfl, rfl, hm, hB, hb1, hd⟩ := hrel
    cases gk with
    | zero =>
      have hlt : ¬ ((i : Int) < n) := by omega
      obtain rfl : m = 0 := told_nil hm (by rw [← hd.out]; apply List.drop_of_length_le; have := HN.out; omega)
      go_wp2_with (first
        | (go_at_call 15; refine (first_no _).mono ?_; rintro e wx ⟨rfl, hwx⟩; obtain rfl := hwx.symm)
        | (go_at_call 14; refine (alive_any _).mono ?_; rintro e w4 ⟨rfl, hb⟩; replace hB := hB.trans (hb.mono hB.size)))
      go_ret
      exact ⟨rfl, hB⟩
    | succ g =>
      have hlt : (i : Int) < n := by omega
      have hlen := HN.out
      obtain ⟨b, off, rfl, hc⟩ := HS.out (by omega)
      have hl1 := cell_lt (hc i (by omega))
      have hm0 : m ≠ 0 := by
        rintro rfl
        have := congrArg List.length hd.out
        rw [told_zero, List.length_drop] at this
        simp at this
        omega
      have hf := told_first hm0 hm
      have hx : (told L).getD i 0 = (m.log2 : Int) := by
        have h1 := congrArg (fun z => z.getD 0 0) hd.out
        rw [hf] at h1
        simpa [List.getElem?_drop] using h1
      have hd' : Hid ((told L).drop (i + 1) = told (clrL m (m.log2 : Int))) := by
        show _ = _
        have h1 := congrArg (List.drop 1) hd.out
        rw [hf, List.drop_drop] at h1
        simpa using h1
      have k1 := (hb1.cell (p := ⟨b, off + i, none⟩) hl1).trans (hc i (by omega))
      rw [hx] at k1
      have t2 := T2.out i (by omega)
      rw [hx] at t2
      have u1 : ¬ ((m.log2 : Int) < 0) := by omega
      have u2 : ¬ ((31 : Int) < (m.log2 : Int)) := by omega
      by_cases hi : i = 0
      · subst hi
        rw [Nat.add_zero] at k1
        have d1 : decide ((m.log2 : Int) < 0) = false := decide_eq_false u1
        have d2 : decide ((31 : Int) < (m.log2 : Int)) = false := decide_eq_false u2
        have hl2 : b < wr.heap.size := Nat.lt_of_lt_of_le hl1 hb1.size
        clear hf hlen hx hd hc
        go_wp2
        go_quiet ((fail))
        have hdr := below_drewN wr nq
        replace hB := hB.trans (hdr.mono hB.size)
        replace hb1 := hb1.trans (hdr.mono hb1.size)
        replace k1 := (hdr.cell (p := ⟨b, off, none⟩) hl2).trans k1
        clear hdr hl2
        generalize wr.drewN nq = wd at *
        have hne : ((m.log2 : Int) != (m.log2 : Int)) = false := by simp
        go_wp2_with (first
          | (go_at_call 15; refine (first_yes m hm hm0 _).mono ?_; rintro e wx ⟨rfl, hwx⟩; obtain rfl := hwx.symm)
          | (go_at_call 10; refine (clear_any m hm _ _).mono ?_; rintro e wx ⟨rfl, hwx⟩; obtain rfl := hwx.symm))
        go_roundg g
        case measure => omega
        case rel => exact ⟨0 + 1, clrL m (m.log2 : Int), by omega, rfl, by go_num, clrL_lt hm _, hB, hb1, hd'⟩
      · obtain ⟨j, rfl⟩ : ∃ j, i = j + 1 := ⟨i - 1, by omega⟩
        have t1 := T1.out (j + 1) (by omega) (by omega)
        have k0 := (hb1.cell (p := ⟨b, off + j, none⟩) hl1).trans (hc j (by omega))
        rw [hx, Nat.add_sub_cancel] at t1
        have hl2 : b < wr.heap.size := Nat.lt_of_lt_of_le hl1 hb1.size
        generalize (told L).getD j 0 = y at t1 k0
        have d1 : decide ((m.log2 : Int) < 0) = false := decide_eq_false u1
        have d2 : decide ((31 : Int) < (m.log2 : Int)) = false := decide_eq_false u2
        have d3 : decide (y ≤ (m.log2 : Int)) = false := decide_eq_false (by omega)
        have d4 : decide ((0 : Int) < (j : Int) + 1) = true := decide_eq_true (by omega)
        rw [Int.natCast_add, Int.natCast_one] at hlt
        clear hf hlen hx hd hc
        go_wp2
        go_quiet ((fail))
        have hdr := below_drewN wr nq
        replace hB := hB.trans (hdr.mono hB.size)
        replace hb1 := hb1.trans (hdr.mono hb1.size)
        replace k1 := (hdr.cell (p := ⟨b, off + (j + 1), none⟩) hl2).trans k1
        clear hdr hl2 k0
        generalize wr.drewN nq = wd at *
        have hne : ((m.log2 : Int) != (m.log2 : Int)) = false := by simp
        go_wp2_with (first
          | (go_at_call 15; refine (first_yes m hm hm0 _).mono ?_; rintro e wx ⟨rfl, hwx⟩; obtain rfl := hwx.symm)
          | (go_at_call 10; refine (clear_any m hm _ _).mono ?_; rintro e wx ⟨rfl, hwx⟩; obtain rfl := hwx.symm))
        go_roundg g
        case measure => omega
        case rel => exact ⟨j + 1 + 1, clrL m (m.log2 : Int), by omega, rfl, by go_num, clrL_lt hm _, hB, hb1, hd'⟩
theorem falls_row (a : Int) (b : 0 ≤ a ∧ a ≤ 4294967295) (w : World) :
    Calls Try.prog 5 #[.int .u32 a] w fun e w' => e = .returned (.bool true) ∧ Below w.heap.size w w' := by
  obtain ⟨l, rfl⟩ := Int.eq_ofNat_of_zero_le b.1
  exact falls_any l (by omega) w
end Go.Proofs.Ytjcaiejbibhpiaa
