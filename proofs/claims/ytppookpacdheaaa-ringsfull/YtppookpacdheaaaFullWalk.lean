/- 'RingsFull' walked: as many as there may be are put, and no more, until one goes. -/
import Derived.Test.YtppookpacdheaaaHelps
namespace Go.Proofs.Ytppookpacdheaaa
open Go Go.RowKit
set_option maxRecDepth 100000
set_option linter.unusedVariables false
/-- the numbers that are put -/
def tri (k : Nat) : List Int := (List.range k).map fun i : Nat => 3 * (i : Int)
theorem tri_len (k : Nat) : (tri k).length = k := by simp [tri]
theorem tri_at {k i : Nat} (h : i < k) : (tri k).getD i 0 = 3 * (i : Int) := by simp [tri, h]
theorem tri_mem {k : Nat} {z : Int} (h : z ∈ tri k) : ∃ i : Nat, i < k ∧ z = 3 * (i : Int) := by
  obtain ⟨i, hi, rfl⟩ := List.mem_map.1 h
  exact ⟨i, List.mem_range.1 hi, rfl⟩
theorem tri_good (k : Nat) : Good (tri k) := by
  refine ⟨?_, fun x hx => by obtain ⟨i, _, rfl⟩ := tri_mem hx; omega⟩
  unfold tri
  rw [List.Nodup, List.pairwise_map]
  exact List.Pairwise.imp (fun h e => h (by omega)) (List.nodup_range (n := k))
/-- the ring's numbers behind each call -/
structure Fulls (k j : Nat) (n : Int) : Prop where
  f1 : addE (tri k) k 1 = 10
  p1 : putL (tri k) k 1 = tri k
  q1 : pushL (tri k) k 1 = tri k
  f2 : addE (tri k) k n = 7
  p2 : putL (tri k) k n = tri k
  r1 : remE (tri k) n = 0
  f3 : addE ((tri k).erase n) k 1 = 0
  q3 : pushL ((tri k).erase n) k 1 = 1 :: (tri k).erase n
  f4 : addE (1 :: (tri k).erase n) k 2 = 10
  p4 : putL (1 :: (tri k).erase n) k 2 = 1 :: (tri k).erase n
  len : (1 :: (tri k).erase n).length = k
  snd : 1 < k → (1 :: (tri k).erase n).getD 1 0 = if j = 0 then 3 else 0
theorem fulls {k j : Nat} (hj : j < k) : Fulls k j (3 * (j : Int)) := by
  have hl := tri_len k
  have hn : 3 * (j : Int) ∈ tri k := by rw [← tri_at hj]; exact getD_mem (by omega)
  have n1 : (1 : Int) ∉ tri k := fun h => by obtain ⟨i, _, e⟩ := tri_mem h; omega
  have n2 : (2 : Int) ∉ tri k := fun h => by obtain ⟨i, _, e⟩ := tri_mem h; omega
  have n3 : (1 : Int) ∉ (tri k).erase (3 * (j : Int)) := fun h => n1 (List.mem_of_mem_erase h)
  have n4 : (2 : Int) ∉ 1 :: (tri k).erase (3 * (j : Int)) := fun h => by
    rcases List.mem_cons.1 h with h | h
    · omega
    · exact n2 (List.mem_of_mem_erase h)
  have le := erase_len hn
  have f1 : addE (tri k) k 1 = 10 := addE_full (by decide) n1 hl
  have f2 : addE (tri k) k (3 * (j : Int)) = 7 := addE_state (by omega) hn
  have f3 : addE ((tri k).erase (3 * (j : Int))) k 1 = 0 := addE_ok (by decide) n3 (by omega)
  have len : (1 :: (tri k).erase (3 * (j : Int))).length = k := by simp; omega
  have f4 : addE (1 :: (tri k).erase (3 * (j : Int))) k 2 = 10 := addE_full (by decide) n4 len
  refine ⟨f1, by simp [putL, f1], by simp [pushL, f1], f2, by simp [putL, f2], by simp [remE, hn], f3, by simp [pushL, f3], f4, by simp [putL, f4], len, fun h1 => ?_⟩
  rw [← tri_at hj, erase_at (tri_good k).1 (by omega)]
  by_cases h0 : j = 0
  · subst h0
    rw [if_pos rfl]
    have := tri_at h1
    simpa using this
  · rw [if_neg h0]
    have := tri_at (show 0 < k by omega)
    obtain ⟨i, rfl⟩ : ∃ i, j = i + 1 := ⟨j - 1, by omega⟩
    rw [List.getD_cons_succ, getD_app, if_pos (by simp; omega)]
    simpa using this
set_option maxHeartbeats 4000000 in
theorem full_any (a b : Int) (ha : 0 ≤ a ∧ a ≤ 255) (hb : 0 ≤ b ∧ b ≤ 65535) (w : World) : Calls Try.prog 7 #[.int .u8 a, .int .u16 b] w fun e w' => e = .returned (.bool true) ∧ Below w.heap.size w w' := by
  obtain ⟨k, hk⟩ := Int.eq_ofNat_of_zero_le (a := 1 + a) (by omega)
  obtain ⟨q, rfl⟩ := Int.eq_ofNat_of_zero_le (a := b) hb.1
  have k1 : 1 ≤ k := by omega
  have k2 : k ≤ 256 := by omega
  obtain ⟨j, hj⟩ : ∃ j, q % k = j := ⟨_, rfl⟩
  have hjk : j < k := by rw [← hj]; exact Nat.mod_lt _ (by omega)
  have hrem : Int.tmod (q : Int) (k : Int) = (j : Int) := by rw [← hj, ← Int.ofNat_tmod]
  have HF : Hid (Fulls k j (3 * (j : Int))) := fulls hjk
  have hC := new_yes (w := w) k k1 (by omega)
  have hz : ((k : Int) == 0) = false := by simp; omega
  clear hj
  go_enter Try.func7, Try.ntmps7
  go_wp2_with (first | (go_at_call 18; refine hC.mono ?_; rintro e w1 ⟨rfl, hr, hB⟩; have H1 : Hid (Ring w1 (w.heap.size + 1) w.heap.size k ((tri k).take 0)) := hr; clear hr))
  go_loopg [8] k (fun g s8 wx => ∃ i : Nat, i + g = k ∧ s8 = .int .i64 i ∧ Hid (Ring wx (w.heap.size + 1) w.heap.size k ((tri k).take i)) ∧ Below w.heap.size w wx)
  case atStart => exact ⟨0, by omega, rfl, H1, hB⟩
  case round =>
    clear H1 hB
    obtain ⟨i, hig, rfl, HR, hB⟩ := hrel
    cases gk with
    | succ g =>
      have hlt : (i : Int) < k := by omega
      obtain ⟨ha, hp⟩ := add_next (n := k) (tri_good k) (i := i) (by rw [tri_len]; omega) (by omega)
      rw [tri_at (by omega)] at ha hp
      have HC : Hid (Calls Try.prog 9 #[.pointer (some ⟨w.heap.size + 1, 0, none⟩), .int .i64 (3 * (i : Int))] wr fun r w'' => r = .returned (.int .i64 0) ∧ Ring w'' (w.heap.size + 1) w.heap.size k ((tri k).take (i + 1)) ∧ Buts [w.heap.size + 1, w.heap.size] wr w'') := put_is HR.out _ ha hp
      clear ha hp
      go_wp2_with (first | (go_at_call 9; refine HC.out.mono ?_; rintro e w2 ⟨rfl, hr, hb⟩; have H2 : Hid (Ring w2 (w.heap.size + 1) w.heap.size k ((tri k).take (i + 1))) := hr; replace hB := hB.trans (two_below hb (by omega) (by omega) hB.size); clear hr hb))
      go_roundg g
      case measure => omega
      case rel => exact ⟨i + 1, by omega, by go_num, H2, hB⟩
    | zero =>
      obtain rfl : i = k := by omega
      have hlt : ¬ ((i : Int) < i) := by omega
      have H0 : Hid (Ring wr (w.heap.size + 1) w.heap.size i (tri i)) := by have := HR.out; rwa [List.take_of_length_le (by rw [tri_len]; omega)] at this
      clear HR
      have hcase : i = 1 ∨ 1 < i ∧ j = 0 ∨ 1 < i ∧ 0 < j := by omega
      obtain ⟨T, hT⟩ : ∃ T, tri i = T := ⟨_, rfl⟩
      obtain ⟨E, hE⟩ : ∃ E, (tri i).erase (3 * (j : Int)) = E := ⟨_, rfl⟩
      have G : Hid (addE T i 1 = 10 ∧ putL T i 1 = T ∧ pushL T i 1 = T ∧ addE T i (3 * (j : Int)) = 7 ∧ putL T i (3 * (j : Int)) = T ∧ remE T (3 * (j : Int)) = 0 ∧ T.erase (3 * (j : Int)) = E ∧ addE E i 1 = 0 ∧ pushL E i 1 = 1 :: E ∧ addE (1 :: E) i 2 = 10 ∧ putL (1 :: E) i 2 = 1 :: E) := by
        have := HF.out
        rw [← hE, ← hT]
        exact ⟨this.f1, this.p1, this.q1, this.f2, this.p2, this.r1, rfl, this.f3, this.q3, this.f4, this.p4⟩
      have GL : Hid ((1 :: E).length = i) := by have := HF.out.len; rw [hE] at this; exact this
      have GS : Hid (1 < i → (1 :: E).getD 1 0 = if j = 0 then 3 else 0) := by have := HF.out.snd; rw [hE] at this; exact this
      rw [hT] at H0
      clear hT hE HF
      rcases hcase with h1 | ⟨h1, h0⟩ | ⟨h1, h0⟩
      · subst h1
        obtain rfl : j = 0 := by omega
        go_wp2_with (first
          | (go_at_call 9; refine (put_is H5.out 2 (G.out.2.2.2.2.2.2.2.2.2.1) (G.out.2.2.2.2.2.2.2.2.2.2)).mono ?_; rintro e v6 ⟨rfl, hr, hb⟩; have H6 : Hid (Ring v6 (w.heap.size + 1) w.heap.size 1 (1 :: E)) := hr; replace hB := hB.trans (two_below hb (by omega) (by omega) hB.size); clear hr hb H5)
          | (go_at_call 10; refine (push_is H4.out 1 (G.out.2.2.2.2.2.2.2.1) (G.out.2.2.2.2.2.2.2.2.1)).mono ?_; rintro e v5 ⟨rfl, hr, hb⟩; have H5 : Hid (Ring v5 (w.heap.size + 1) w.heap.size 1 (1 :: E)) := hr; replace hB := hB.trans (two_below hb (by omega) (by omega) hB.size); clear hr hb H4)
          | (go_at_call 11; refine (remove_is H3.out _ (G.out.2.2.2.2.2.1) (G.out.2.2.2.2.2.2.1)).mono ?_; rintro e v4 ⟨rfl, hr, hb⟩; have H4 : Hid (Ring v4 (w.heap.size + 1) w.heap.size 1 (E)) := hr; replace hB := hB.trans (two_below hb (by omega) (by omega) hB.size); clear hr hb H3)
          | (go_at_call 9; refine (put_is H2.out _ (G.out.2.2.2.1) (G.out.2.2.2.2.1)).mono ?_; rintro e v3 ⟨rfl, hr, hb⟩; have H3 : Hid (Ring v3 (w.heap.size + 1) w.heap.size 1 (T)) := hr; replace hB := hB.trans (two_below hb (by omega) (by omega) hB.size); clear hr hb H2)
          | (go_at_call 10; refine (push_is H1.out 1 (G.out.1) (G.out.2.2.1)).mono ?_; rintro e v2 ⟨rfl, hr, hb⟩; have H2 : Hid (Ring v2 (w.heap.size + 1) w.heap.size 1 (T)) := hr; replace hB := hB.trans (two_below hb (by omega) (by omega) hB.size); clear hr hb H1)
          | (go_at_call 9; refine (put_is H0.out 1 (G.out.1) (G.out.2.1)).mono ?_; rintro e v1 ⟨rfl, hr, hb⟩; have H1 : Hid (Ring v1 (w.heap.size + 1) w.heap.size 1 (T)) := hr; replace hB := hB.trans (two_below hb (by omega) (by omega) hB.size); clear hr hb H0)
          | (go_at_call 13; refine (list_is H6.out GL.out).mono ?_; rintro e v7 ⟨rfl, hr, hb⟩; have HL : Hid (Row v7 v6.heap.size (1 :: E)) := hr; replace hB := hB.trans (hb.mono hB.size); clear hb hr)
          | (go_at_call 14; refine (alive_any _).mono ?_; rintro e v8 ⟨rfl, hb⟩; have HM : Hid (Row v8 v6.heap.size (1 :: E)) := HL.out.below hb; replace hB := hB.trans (hb.mono hB.size); have c0 := HM.out.cell 0 (by simp); rw [List.getD_cons_zero] at c0; clear hb HL))
        go_ret
        exact ⟨rfl, hB⟩
      · subst h0
        rw [if_pos rfl] at GS
        have hi1 : ((i : Int) == 1) = false := by simp; omega
        have hi1I : (1 : Int) < i := by omega
        go_wp2_with (first
          | (go_at_call 9; refine (put_is H5.out 2 (G.out.2.2.2.2.2.2.2.2.2.1) (G.out.2.2.2.2.2.2.2.2.2.2)).mono ?_; rintro e v6 ⟨rfl, hr, hb⟩; have H6 : Hid (Ring v6 (w.heap.size + 1) w.heap.size i (1 :: E)) := hr; replace hB := hB.trans (two_below hb (by omega) (by omega) hB.size); clear hr hb H5)
          | (go_at_call 10; refine (push_is H4.out 1 (G.out.2.2.2.2.2.2.2.1) (G.out.2.2.2.2.2.2.2.2.1)).mono ?_; rintro e v5 ⟨rfl, hr, hb⟩; have H5 : Hid (Ring v5 (w.heap.size + 1) w.heap.size i (1 :: E)) := hr; replace hB := hB.trans (two_below hb (by omega) (by omega) hB.size); clear hr hb H4)
          | (go_at_call 11; refine (remove_is H3.out _ (G.out.2.2.2.2.2.1) (G.out.2.2.2.2.2.2.1)).mono ?_; rintro e v4 ⟨rfl, hr, hb⟩; have H4 : Hid (Ring v4 (w.heap.size + 1) w.heap.size i (E)) := hr; replace hB := hB.trans (two_below hb (by omega) (by omega) hB.size); clear hr hb H3)
          | (go_at_call 9; refine (put_is H2.out _ (G.out.2.2.2.1) (G.out.2.2.2.2.1)).mono ?_; rintro e v3 ⟨rfl, hr, hb⟩; have H3 : Hid (Ring v3 (w.heap.size + 1) w.heap.size i (T)) := hr; replace hB := hB.trans (two_below hb (by omega) (by omega) hB.size); clear hr hb H2)
          | (go_at_call 10; refine (push_is H1.out 1 (G.out.1) (G.out.2.2.1)).mono ?_; rintro e v2 ⟨rfl, hr, hb⟩; have H2 : Hid (Ring v2 (w.heap.size + 1) w.heap.size i (T)) := hr; replace hB := hB.trans (two_below hb (by omega) (by omega) hB.size); clear hr hb H1)
          | (go_at_call 9; refine (put_is H0.out 1 (G.out.1) (G.out.2.1)).mono ?_; rintro e v1 ⟨rfl, hr, hb⟩; have H1 : Hid (Ring v1 (w.heap.size + 1) w.heap.size i (T)) := hr; replace hB := hB.trans (two_below hb (by omega) (by omega) hB.size); clear hr hb H0)
          | (go_at_call 13; refine (list_is H6.out GL.out).mono ?_; rintro e v7 ⟨rfl, hr, hb⟩; have HL : Hid (Row v7 v6.heap.size (1 :: E)) := hr; replace hB := hB.trans (hb.mono hB.size); clear hb hr)
          | (go_at_call 14; refine (alive_any _).mono ?_; rintro e v8 ⟨rfl, hb⟩; have HM : Hid (Row v8 v6.heap.size (1 :: E)) := HL.out.below hb; replace hB := hB.trans (hb.mono hB.size); have c0 := HM.out.cell 0 (by simp); rw [List.getD_cons_zero] at c0; have c1 := HM.out.cell 1 (by have := GL.out; omega); rw [GS.out h1] at c1; clear hb HL))
        go_ret
        exact ⟨rfl, hB⟩
      · have hi1 : ((i : Int) == 1) = false := by simp; omega
        have hi1I : (1 : Int) < i := by omega
        have hj0 : (j : Int) ≠ 0 := by omega
        have hj1 : (0 : Int) < 3 * (j : Int) := by omega
        go_wp2_with (first
          | (go_at_call 9; refine (put_is H5.out 2 (G.out.2.2.2.2.2.2.2.2.2.1) (G.out.2.2.2.2.2.2.2.2.2.2)).mono ?_; rintro e v6 ⟨rfl, hr, hb⟩; have H6 : Hid (Ring v6 (w.heap.size + 1) w.heap.size i (1 :: E)) := hr; replace hB := hB.trans (two_below hb (by omega) (by omega) hB.size); clear hr hb H5)
          | (go_at_call 10; refine (push_is H4.out 1 (G.out.2.2.2.2.2.2.2.1) (G.out.2.2.2.2.2.2.2.2.1)).mono ?_; rintro e v5 ⟨rfl, hr, hb⟩; have H5 : Hid (Ring v5 (w.heap.size + 1) w.heap.size i (1 :: E)) := hr; replace hB := hB.trans (two_below hb (by omega) (by omega) hB.size); clear hr hb H4)
          | (go_at_call 11; refine (remove_is H3.out _ (G.out.2.2.2.2.2.1) (G.out.2.2.2.2.2.2.1)).mono ?_; rintro e v4 ⟨rfl, hr, hb⟩; have H4 : Hid (Ring v4 (w.heap.size + 1) w.heap.size i (E)) := hr; replace hB := hB.trans (two_below hb (by omega) (by omega) hB.size); clear hr hb H3)
          | (go_at_call 9; refine (put_is H2.out _ (G.out.2.2.2.1) (G.out.2.2.2.2.1)).mono ?_; rintro e v3 ⟨rfl, hr, hb⟩; have H3 : Hid (Ring v3 (w.heap.size + 1) w.heap.size i (T)) := hr; replace hB := hB.trans (two_below hb (by omega) (by omega) hB.size); clear hr hb H2)
          | (go_at_call 10; refine (push_is H1.out 1 (G.out.1) (G.out.2.2.1)).mono ?_; rintro e v2 ⟨rfl, hr, hb⟩; have H2 : Hid (Ring v2 (w.heap.size + 1) w.heap.size i (T)) := hr; replace hB := hB.trans (two_below hb (by omega) (by omega) hB.size); clear hr hb H1)
          | (go_at_call 9; refine (put_is H0.out 1 (G.out.1) (G.out.2.1)).mono ?_; rintro e v1 ⟨rfl, hr, hb⟩; have H1 : Hid (Ring v1 (w.heap.size + 1) w.heap.size i (T)) := hr; replace hB := hB.trans (two_below hb (by omega) (by omega) hB.size); clear hr hb H0)
          | (go_at_call 13; refine (list_is H6.out GL.out).mono ?_; rintro e v7 ⟨rfl, hr, hb⟩; have HL : Hid (Row v7 v6.heap.size (1 :: E)) := hr; replace hB := hB.trans (hb.mono hB.size); clear hb hr)
          | (go_at_call 14; refine (alive_any _).mono ?_; rintro e v8 ⟨rfl, hb⟩; have HM : Hid (Row v8 v6.heap.size (1 :: E)) := HL.out.below hb; replace hB := hB.trans (hb.mono hB.size); have c0 := HM.out.cell 0 (by simp); rw [List.getD_cons_zero] at c0; have c1 := HM.out.cell 1 (by have := GL.out; omega); rw [GS.out h1] at c1; rw [if_neg (by omega)] at c1; clear hb HL))
        go_ret
        exact ⟨rfl, hB⟩
end Go.Proofs.Ytppookpacdheaaa
