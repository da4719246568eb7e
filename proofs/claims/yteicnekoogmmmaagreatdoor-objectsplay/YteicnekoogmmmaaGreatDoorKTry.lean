/- The document's own thing: whatever is asked of it. -/
import Derived.Test.YteicnekoogmmmaaGreatDoorKM6
namespace Go.Proofs.YteicnekoogmmmaaGreatDoor
open Go Go.RowKit
open Tk (above above_cell below_above wp_region_calm calm_call)
set_option maxRecDepth 100000
set_option linter.unusedVariables false
set_option maxHeartbeats 8000000 in
theorem ktry_bad {s : Nat} {w : World} {q z : Nat} {u v : Value} {T : Sx} (h : KR s w q z u v T) (hs : s ≤ w.heap.size) (hr : Rg T) (who wh ah : Int) (av am : Nat) (aw : Int) (hbad : Bad T who wh am) :
    Calls Tryz.prog 10 #[.pointer (some ⟨q, 0, none⟩), .int .u32 who, .agg #[.int .u8 wh, .int .u32 ah, .int .u32 (av : Nat), .int .u32 (am : Nat), .int .i64 aw]] w (KAns s w q z v (0, 1, T)) := by
  have B0 : Hid (Below w.heap.size w (w.alloc (.cells #[.int .u8 wh, .int .u32 ah, .int .u32 (av : Nat), .int .u32 (am : Nat), .int .i64 aw] 39))) := alloc_below w _
  have HK : Hid (KR s (w.alloc (.cells #[.int .u8 wh, .int .u32 ah, .int .u32 (av : Nat), .int .u32 (am : Nat), .int .i64 aw] 39)) q z u v T) := h.below B0.out
  have KO : Hid (KR s w q z u v T) := h
  have HA : Hid (Blk (w.alloc (.cells #[.int .u8 wh, .int .u32 ah, .int .u32 (av : Nat), .int .u32 (am : Nat), .int .i64 aw] 39)) w.heap.size #[.int .u8 wh, .int .u32 ah, .int .u32 (av : Nat), .int .u32 (am : Nat), .int .i64 aw] 39) := alloc_at w _
  have hsz0 := alloc_size w (.cells #[.int .u8 wh, .int .u32 ah, .int .u32 (av : Nat), .int .u32 (am : Nat), .int .i64 aw] 39)
  have T1 := fun w => Tk.rfits_any wh ah (av : Nat) (am : Nat) aw T.k (by have := hr.k; omega) w
  have hlt := h.head.lt
  have c0 : (w.alloc (.cells #[.int .u8 wh, .int .u32 ah, .int .u32 (av : Nat), .int .u32 (am : Nat), .int .i64 aw] 39)).cell? ⟨q, 0, none⟩ = some (.int .u8 T.k) := HK.out.c.1
  have a0 : (w.alloc (.cells #[.int .u8 wh, .int .u32 ah, .int .u32 (av : Nat), .int .u32 (am : Nat), .int .i64 aw] 39)).cell? ⟨w.heap.size, 0, none⟩ = some (.int .u8 wh) := by rw [HA.out.cell]; rfl
  have a1 : (w.alloc (.cells #[.int .u8 wh, .int .u32 ah, .int .u32 (av : Nat), .int .u32 (am : Nat), .int .i64 aw] 39)).cell? ⟨w.heap.size, 1, none⟩ = some (.int .u32 ah) := by rw [HA.out.cell]; rfl
  have a2 : (w.alloc (.cells #[.int .u8 wh, .int .u32 ah, .int .u32 (av : Nat), .int .u32 (am : Nat), .int .i64 aw] 39)).cell? ⟨w.heap.size, 2, none⟩ = some (.int .u32 (av : Nat)) := by rw [HA.out.cell]; rfl
  have a3 : (w.alloc (.cells #[.int .u8 wh, .int .u32 ah, .int .u32 (av : Nat), .int .u32 (am : Nat), .int .i64 aw] 39)).cell? ⟨w.heap.size, 3, none⟩ = some (.int .u32 (am : Nat)) := by rw [HA.out.cell]; rfl
  have a4 : (w.alloc (.cells #[.int .u8 wh, .int .u32 ah, .int .u32 (av : Nat), .int .u32 (am : Nat), .int .i64 aw] 39)).cell? ⟨w.heap.size, 4, none⟩ = some (.int .i64 aw) := by rw [HA.out.cell]; rfl
  have hsz : w.heap.size < (w.alloc (.cells #[.int .u8 wh, .int .u32 ah, .int .u32 (av : Nat), .int .u32 (am : Nat), .int .i64 aw] 39)).heap.size := by omega
  have hqz : q < (w.alloc (.cells #[.int .u8 wh, .int .u32 ah, .int .u32 (av : Nat), .int .u32 (am : Nat), .int .i64 aw] 39)).heap.size := by omega
  have QX : q ≠ w.heap.size := by omega
  unfold KAns
  clear h hs hr
  by_cases h1 : who = 0
  · subst h1
    go_enter Tryz.func10, Tryz.ntmps10
    go_wp2
    generalize hW : (w.alloc (.cells #[.int .u8 wh, .int .u32 ah, .int .u32 (av : Nat), .int .u32 (am : Nat), .int .i64 aw] 39)) = w2 at *
    have hca := @above_cell
    refine wp_region_calm (by kernel_rfl) (by kernel_rfl) ?_
    repeat (go_big_quiet_step (first
      | (go_at_call 21; exact calm_call (T1 _))))
    refine wpQuiet_nil ?_
    intro w3 hb3
    have B3 : Hid (Below w.heap.size w w3) := B0.out.trans (hb3.mono B0.out.size)
    clear hca hb3
    go_wp2
    go_ret2
    exact ⟨rfl, KO.out.same B3.out⟩
  have h1b : (who == 0) = false := by simpa using h1
  by_cases h2 : T.k = 6
  · have h2b : (T.k == 6) = true := by simpa using h2
    clear h1 h2 hbad
    go_enter Tryz.func10, Tryz.ntmps10
    go_wp2
    generalize hW : (w.alloc (.cells #[.int .u8 wh, .int .u32 ah, .int .u32 (av : Nat), .int .u32 (am : Nat), .int .i64 aw] 39)) = w2 at *
    have hca := @above_cell
    refine wp_region_calm (by kernel_rfl) (by kernel_rfl) ?_
    repeat (go_big_quiet_step (first
      | (go_at_call 21; exact calm_call (T1 _))))
    refine wpQuiet_nil ?_
    intro w3 hb3
    have B3 : Hid (Below w.heap.size w w3) := B0.out.trans (hb3.mono B0.out.size)
    clear hca hb3
    go_wp2
    go_ret2
    exact ⟨rfl, KO.out.same B3.out⟩
  have h2b : (T.k == 6) = false := by simpa using h2
  by_cases h3 : Tk.fitB wh T.k = false
  · rw [h3] at T1
    clear h1 h2 hbad h3
    go_enter Tryz.func10, Tryz.ntmps10
    go_wp2
    generalize hW : (w.alloc (.cells #[.int .u8 wh, .int .u32 ah, .int .u32 (av : Nat), .int .u32 (am : Nat), .int .i64 aw] 39)) = w2 at *
    have hca := @above_cell
    refine wp_region_calm (by kernel_rfl) (by kernel_rfl) ?_
    repeat (go_big_quiet_step (first
      | (go_at_call 21; exact calm_call (T1 _))))
    refine wpQuiet_nil ?_
    intro w3 hb3
    have B3 : Hid (Below w.heap.size w w3) := B0.out.trans (hb3.mono B0.out.size)
    clear hca hb3
    go_wp2
    go_ret2
    exact ⟨rfl, KO.out.same B3.out⟩
  have h3' : Tk.fitB wh T.k = true := by simpa using h3
  rw [h3'] at T1
  have h4 : wh = 11 ∧ 3 < am := by unfold Bad at hbad; rw [h3'] at hbad; simp only [Bool.true_eq_false, false_or] at hbad; omega
  obtain ⟨h4, h5⟩ := h4
  have h4b : (wh == 11) = true := by simpa using h4
  have h5b : decide ((3 : Int) < (am : Int)) = true := by simp; omega
  have h5c : decide (3 < am) = true := by simpa using h5
  have h5d : (3 : Int) < (am : Int) := by omega
  clear h1 h2 hbad h3 h3' h5 h4
  go_enter Tryz.func10, Tryz.ntmps10
  go_wp2
  generalize hW : (w.alloc (.cells #[.int .u8 wh, .int .u32 ah, .int .u32 (av : Nat), .int .u32 (am : Nat), .int .i64 aw] 39)) = w2 at *
  have hca := @above_cell
  refine wp_region_calm (by kernel_rfl) (by kernel_rfl) ?_
  repeat (go_big_quiet_step (first
    | (go_at_call 21; exact calm_call (T1 _))))
  refine wpQuiet_nil ?_
  intro w3 hb3
  have B3 : Hid (Below w.heap.size w w3) := B0.out.trans (hb3.mono B0.out.size)
  clear hca hb3
  go_wp2
  go_ret2
  exact ⟨rfl, KO.out.same B3.out⟩
theorem KR.own4 {s : Nat} {w : World} {q z : Nat} {u v : Value} {T : Sx} (h : KR s w q z u v T) (x : Int) : KR s (w.setCell ⟨q, 4, none⟩ (.int .u32 x)) q z u v { T with o := x } ∧ Buts [q, z] w (w.setCell ⟨q, 4, none⟩ (.int .u32 x)) :=
  have hb : Buts [q] w (w.setCell ⟨q, 4, none⟩ (.int .u32 x)) := Buts.cell _ _ _ _
  ⟨h.set (kc_o h.head x) (h.own.q h.head hb) (b1 hb), b1 hb⟩
set_option maxHeartbeats 8000000 in
theorem ktry_ok {s : Nat} {w : World} {q z : Nat} {u v : Value} {T : Sx} (h : KR s w q z u v T) (hs : s ≤ w.heap.size) (hr : Rg T) (who wh ah : Int) (av am : Nat) (aw : Int) (hw : 0 < who) (hf : Tk.fitB wh T.k = true) (h6 : T.k ≠ 6) (ha : ¬ (wh = 11 ∧ 3 < am)) (hv : av < 4294967296) :
    Calls Tryz.prog 10 #[.pointer (some ⟨q, 0, none⟩), .int .u32 who, .agg #[.int .u8 wh, .int .u32 ah, .int .u32 (av : Nat), .int .u32 (am : Nat), .int .i64 aw]] w (KAns s w q z v (tX T who wh av am)) := by
  have B0 : Hid (Below w.heap.size w (w.alloc (.cells #[.int .u8 wh, .int .u32 ah, .int .u32 (av : Nat), .int .u32 (am : Nat), .int .i64 aw] 39))) := alloc_below w _
  have HK : Hid (KR s (w.alloc (.cells #[.int .u8 wh, .int .u32 ah, .int .u32 (av : Nat), .int .u32 (am : Nat), .int .i64 aw] 39)) q z u v T) := h.below B0.out
  have KO : Hid (KR s w q z u v T) := h
  have HA : Hid (Blk (w.alloc (.cells #[.int .u8 wh, .int .u32 ah, .int .u32 (av : Nat), .int .u32 (am : Nat), .int .i64 aw] 39)) w.heap.size #[.int .u8 wh, .int .u32 ah, .int .u32 (av : Nat), .int .u32 (am : Nat), .int .i64 aw] 39) := alloc_at w _
  have hsz0 := alloc_size w (.cells #[.int .u8 wh, .int .u32 ah, .int .u32 (av : Nat), .int .u32 (am : Nat), .int .i64 aw] 39)
  have T1 := fun w => Tk.rfits_any wh ah (av : Nat) (am : Nat) aw T.k (by have := hr.k; omega) w
  have hlt := h.head.lt
  have c0 : (w.alloc (.cells #[.int .u8 wh, .int .u32 ah, .int .u32 (av : Nat), .int .u32 (am : Nat), .int .i64 aw] 39)).cell? ⟨q, 0, none⟩ = some (.int .u8 T.k) := HK.out.c.1
  have a0 : (w.alloc (.cells #[.int .u8 wh, .int .u32 ah, .int .u32 (av : Nat), .int .u32 (am : Nat), .int .i64 aw] 39)).cell? ⟨w.heap.size, 0, none⟩ = some (.int .u8 wh) := by rw [HA.out.cell]; rfl
  have a1 : (w.alloc (.cells #[.int .u8 wh, .int .u32 ah, .int .u32 (av : Nat), .int .u32 (am : Nat), .int .i64 aw] 39)).cell? ⟨w.heap.size, 1, none⟩ = some (.int .u32 ah) := by rw [HA.out.cell]; rfl
  have a2 : (w.alloc (.cells #[.int .u8 wh, .int .u32 ah, .int .u32 (av : Nat), .int .u32 (am : Nat), .int .i64 aw] 39)).cell? ⟨w.heap.size, 2, none⟩ = some (.int .u32 (av : Nat)) := by rw [HA.out.cell]; rfl
  have a3 : (w.alloc (.cells #[.int .u8 wh, .int .u32 ah, .int .u32 (av : Nat), .int .u32 (am : Nat), .int .i64 aw] 39)).cell? ⟨w.heap.size, 3, none⟩ = some (.int .u32 (am : Nat)) := by rw [HA.out.cell]; rfl
  have a4 : (w.alloc (.cells #[.int .u8 wh, .int .u32 ah, .int .u32 (av : Nat), .int .u32 (am : Nat), .int .i64 aw] 39)).cell? ⟨w.heap.size, 4, none⟩ = some (.int .i64 aw) := by rw [HA.out.cell]; rfl
  have hsz : w.heap.size < (w.alloc (.cells #[.int .u8 wh, .int .u32 ah, .int .u32 (av : Nat), .int .u32 (am : Nat), .int .i64 aw] 39)).heap.size := by omega
  have hqz : q < (w.alloc (.cells #[.int .u8 wh, .int .u32 ah, .int .u32 (av : Nat), .int .u32 (am : Nat), .int .i64 aw] 39)).heap.size := by omega
  have QX : q ≠ w.heap.size := by omega
  unfold KAns
  have hq := fit_of hf
  have S0 : Hid (s ≤ w.heap.size) := hs
  have HR : Hid (Rg T) := hr
  have hwh : 3 ≤ wh ∧ wh ≤ 15 := by omega
  have MORE : Hid (∀ W, s ≤ W.heap.size → KR s W q z u v T → 7 ≤ wh → Calls Tryz.prog 22 #[.pointer (some ⟨q, 0, none⟩), .int .u32 who, .agg #[.int .u8 wh, .int .u32 ah, .int .u32 (av : Nat), .int .u32 (am : Nat), .int .i64 aw]] W (KAns s W q z v (tX T who wh av am))) := fun W hs' hk h7 => kmore_x hk hs' HR.out who wh ah av am aw hf ⟨h7, hwh.2⟩ ha hv
  obtain ⟨R, hR⟩ : ∃ R, tX T who wh av am = R := ⟨_, rfl⟩
  have HRr : Hid (tX T who wh av am = R) := hR
  rw [hR] at MORE ⊢
  have h1b : (who == 0) = false := by simp; omega
  have h2b : (T.k == 6) = false := by simpa using h6
  have GD : ((wh == 11) = true ∧ decide ((3 : Int) < (am : Int)) = false ∧ decide (3 < am) = false ∧ ¬ (3 : Int) < (am : Int)) ∨ (wh == 11) = false := by
    by_cases e : wh = 11
    · left; exact ⟨by simpa using e, by simp; omega, by simp; omega, by omega⟩
    · right; simpa using e
  have HKD : Hid ((wh = 3 ∨ wh = 4) → T.k = 1) := fun e => by omega
  rw [hf] at T1
  clear h hs hr hf h6 ha hq hR
  rcases GD with ⟨h11, hd1, hd2, hd3⟩ | h11
  all_goals
    go_enter Tryz.func10, Tryz.ntmps10
    go_wp2
    generalize hW : (w.alloc (.cells #[.int .u8 wh, .int .u32 ah, .int .u32 (av : Nat), .int .u32 (am : Nat), .int .i64 aw] 39)) = w2 at *
    have hca := @above_cell
    refine wp_region_calm (by kernel_rfl) (by kernel_rfl) ?_
    repeat (go_big_quiet_step (first
      | (go_at_call 21; exact calm_call (T1 _))))
    refine wpQuiet_nil ?_
    intro w3 hb3
    have B3 : Hid (Below w.heap.size w w3) := B0.out.trans (hb3.mono B0.out.size)
    have P3 : Hid (KR s w3 q z u v T) := KO.out.below B3.out
    have S3 : Hid (s ≤ w3.heap.size) := Nat.le_trans S0.out B3.out.size
    have e0 : w3.cell? ⟨w.heap.size, 0, none⟩ = some (.int .u8 wh) := by rw [(HA.out.below hb3).cell]; rfl
    have e1 : w3.cell? ⟨w.heap.size, 1, none⟩ = some (.int .u32 ah) := by rw [(HA.out.below hb3).cell]; rfl
    have e2 : w3.cell? ⟨w.heap.size, 2, none⟩ = some (.int .u32 (av : Nat)) := by rw [(HA.out.below hb3).cell]; rfl
    have e3 : w3.cell? ⟨w.heap.size, 3, none⟩ = some (.int .u32 (am : Nat)) := by rw [(HA.out.below hb3).cell]; rfl
    have e4 : w3.cell? ⟨w.heap.size, 4, none⟩ = some (.int .i64 aw) := by rw [(HA.out.below hb3).cell]; rfl
    obtain ⟨_, _, d2, d3, d4, _, _⟩ := P3.out.c
    have g3 := P3.out.head.free 3
    have g4 := P3.out.head.free 4
    have q3 : q < w3.heap.size := P3.out.head.lt
    have x3 : w.heap.size < w3.heap.size := Nat.lt_of_lt_of_le hsz hb3.size
    have HB3 : Hid (Buts [q, z] w w3) := Buts.of B3.out
    clear hca hb3 HK HA B0 T1 c0 a0 a1 a2 a3 a4 hW hsz hqz hsz0 hlt
    by_cases hm : 7 ≤ wh
    · have m3 : (wh == 3) = false := by simp; omega
      have m4 : (wh == 4) = false := by simp; omega
      have m5 : (wh == 5) = false := by simp; omega
      have m6 : (wh == 6) = false := by simp; omega
      have MC := MORE.out w3 S3.out P3.out hm
      unfold KAns at MC
      clear hm
      go_wp2_with (first
        | (go_at_call 22; refine MC.mono ?_; rintro e w4 ⟨rfl, hk4, hb4⟩; have HN : Hid ((∃ u', KR s w4 q z u' v R.2.2) ∧ Buts [q, z] w w4) := ⟨hk4, HB3.out.trans hb4⟩; clear hk4 hb4))
      go_ret2
      exact ⟨rfl, HN.out⟩
    · obtain rfl | rfl | rfl | rfl : wh = 3 ∨ wh = 4 ∨ wh = 5 ∨ wh = 6 := by omega
      · have hsm := HR.out.sem (HKD.out (Or.inl rfl))
        have hn := HR.out.n
        by_cases hz : T.n = 0
        · have eX : Hid (tX T who 3 av am = (0, 7, T)) := by show _ = _; cases T; simp_all [tX]
          rw [hz] at d3
          clear hz
          go_wp2
          go_ret2
          rw [← HRr.out, eX.out]
          exact ⟨rfl, ⟨u, P3.out⟩, HB3.out⟩
        · have eX : Hid (tX T who 3 av am = (0, 0, { T with n := T.n - 1 })) := by show _ = _; simp [tX, hz]
          have hz1 : (((T.n : Nat) : Int) == 0) = false := by simpa using hz
          have hz2 : ((T.n : Nat) : Int) - 1 = ((T.n - 1 : Nat) : Int) := by omega
          have hz3 : ((T.n - 1 : Nat) : Int) ≤ 4294967295 := by omega
          have HE : Hid (KR s (w3.setCell ⟨q, 3, none⟩ (.int .u32 ((T.n - 1 : Nat) : Int))) q z u v { T with n := T.n - 1 } ∧ Buts [q, z] w3 (w3.setCell ⟨q, 3, none⟩ (.int .u32 ((T.n - 1 : Nat) : Int)))) := P3.out.num (T.n - 1)
          clear hz
          go_wp2
          go_ret2
          rw [← HRr.out, eX.out]
          exact ⟨rfl, ⟨u, HE.out.1⟩, HB3.out.trans HE.out.2⟩
      · have hsm := HR.out.sem (HKD.out (Or.inr rfl))
        have hn := HR.out.n
        by_cases hz : (T.n : Int) = T.b
        · have eX : Hid (tX T who 4 av am = (0, 10, T)) := by show _ = _; cases T; simp_all [tX]
          have hz1 : decide (T.b ≤ (T.n : Int)) = true := by simp; omega
          have hz2 : T.b ≤ (T.n : Int) := by omega
          clear hz
          go_wp2
          go_quiet ((fail))
          go_wp2
          go_ret2
          rw [← HRr.out, eX.out]
          exact ⟨rfl, ⟨u, P3.out.below (below_drewN _ _)⟩, HB3.out.trans (Buts.of (below_drewN _ _))⟩
        · have eX : Hid (tX T who 4 av am = (0, 0, { T with n := T.n + 1 })) := by show _ = _; simp [tX, hz]
          have hz1 : decide (T.b ≤ (T.n : Int)) = false := by simp; omega
          have hz2 : ¬ T.b ≤ (T.n : Int) := by omega
          have hz4 : ((T.n : Nat) : Int) + 1 ≤ 4294967295 := by omega
          clear hz
          go_wp2
          go_quiet ((fail))
          have P4 : Hid (KR s (w3.drewN nq) q z u v T) := P3.out.below (below_drewN _ _)
          have HB4 : Hid (Buts [q, z] w (w3.drewN nq)) := HB3.out.trans (Buts.of (below_drewN _ _))
          generalize w3.drewN nq = w4 at *
          replace d3 := P4.out.c.2.2.2.1
          replace g3 := P4.out.head.free 3
          have hE := P4.out.num (T.n + 1)
          rw [show ((T.n + 1 : Nat) : Int) = (T.n : Int) + 1 by omega] at hE
          have HE : Hid (KR s (w4.setCell ⟨q, 3, none⟩ (.int .u32 ((T.n : Int) + 1))) q z u v { T with n := T.n + 1 } ∧ Buts [q, z] w4 (w4.setCell ⟨q, 3, none⟩ (.int .u32 ((T.n : Int) + 1)))) := hE
          clear hE
          clear d2 d4 g4 q3 x3 e0 e1 e2 e3 e4
          go_wp2
          go_ret2
          rw [← HRr.out, eX.out]
          exact ⟨rfl, ⟨u, HE.out.1⟩, HB4.out.trans HE.out.2⟩
      · by_cases hz : T.o = who
        · have eX : Hid (tX T who 5 av am = (0, 13, T)) := by show _ = _; cases T; simp_all [tX]
          have hz1 : (T.o == who) = true := by simpa using hz
          clear hz
          go_wp2
          go_ret2
          rw [← HRr.out, eX.out]
          exact ⟨rfl, ⟨u, P3.out⟩, HB3.out⟩
        · have hz1 : (T.o == who) = false := by simpa using hz
          by_cases h0 : T.o = 0
          · have eX : Hid (tX T who 5 av am = (0, 0, { T with o := who })) := by show _ = _; simp [tX, h0]; omega
            have h01 : (T.o != 0) = false := by simpa using h0
            have HE : Hid (KR s (w3.setCell ⟨q, 4, none⟩ (.int .u32 who)) q z u v { T with o := who } ∧ Buts [q, z] w3 (w3.setCell ⟨q, 4, none⟩ (.int .u32 who))) := P3.out.own4 who
            clear hz h0
            go_wp2
            go_ret2
            rw [← HRr.out, eX.out]
            exact ⟨rfl, ⟨u, HE.out.1⟩, HB3.out.trans HE.out.2⟩
          · have eX : Hid (tX T who 5 av am = (0, 7, T)) := by show _ = _; cases T; simp_all [tX]
            have h01 : (T.o != 0) = true := by simpa using h0
            clear hz h0
            go_wp2
            go_ret2
            rw [← HRr.out, eX.out]
            exact ⟨rfl, ⟨u, P3.out⟩, HB3.out⟩
      · by_cases hz : T.o = who
        · have eX : Hid (tX T who 6 av am = (0, 0, { T with o := 0 })) := by show _ = _; simp [tX, hz]
          have hz1 : (T.o != who) = false := by simpa using hz
          have HE : Hid (KR s (w3.setCell ⟨q, 4, none⟩ (.int .u32 0)) q z u v { T with o := 0 } ∧ Buts [q, z] w3 (w3.setCell ⟨q, 4, none⟩ (.int .u32 0))) := P3.out.own4 0
          clear hz
          go_wp2
          go_ret2
          rw [← HRr.out, eX.out]
          exact ⟨rfl, ⟨u, HE.out.1⟩, HB3.out.trans HE.out.2⟩
        · have eX : Hid (tX T who 6 av am = (0, 13, T)) := by show _ = _; cases T; simp_all [tX]
          have hz1 : (T.o != who) = true := by simpa using hz
          clear hz
          go_wp2
          go_ret2
          rw [← HRr.out, eX.out]
          exact ⟨rfl, ⟨u, P3.out⟩, HB3.out⟩
theorem ktry_x {s : Nat} {w : World} {q z : Nat} {u v : Value} {T : Sx} (h : KR s w q z u v T) (hs : s ≤ w.heap.size) (hr : Rg T) (who wh ah : Int) (av am : Nat) (aw : Int) (hw : 0 ≤ who) (hv : av < 4294967296) :
    Calls Tryz.prog 10 #[.pointer (some ⟨q, 0, none⟩), .int .u32 who, .agg #[.int .u8 wh, .int .u32 ah, .int .u32 (av : Nat), .int .u32 (am : Nat), .int .i64 aw]] w (KAns s w q z v (tA T who wh av am)) := by
  by_cases hb : Bad T who wh am
  · rw [tA_bad hb]
    exact ktry_bad h hs hr who wh ah av am aw hb
  · rw [tA_ok hb]
    have hb' := hb
    unfold Bad at hb'
    have h1 : who ≠ 0 := fun e => hb' (Or.inl e)
    have h2 : T.k ≠ 6 := fun e => hb' (Or.inr (Or.inl e))
    have h3 : Tk.fitB wh T.k = true := by
      cases e : Tk.fitB wh T.k
      · exact absurd (Or.inr (Or.inr (Or.inl e))) hb'
      · rfl
    exact ktry_ok h hs hr who wh ah av am aw (by omega) h3 h2 (fun e => hb' (Or.inr (Or.inr (Or.inr e)))) hv
end Go.Proofs.YteicnekoogmmmaaGreatDoor
