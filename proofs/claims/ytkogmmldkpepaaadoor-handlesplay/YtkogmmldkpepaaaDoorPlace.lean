/- What 'New' and 'Place' answer. -/
import Derived.Test.YtkogmmldkpepaaaDoorFirst
namespace Go.Proofs.YtkogmmldkpepaaaDoor
open Go Go.RowKit
set_option maxRecDepth 100000
set_option linter.unusedVariables false
/-- a table that no call made -/
def zc (n : Int) : Array Value := (Value.int .i64 n :: (List.replicate 256 [Value.int .u32 0, Value.bool false]).flatten).toArray
theorem zinfo : (Tryd.prog.info? 58).map (fun i => i.zero) = some (some (.agg (zc 0))) := by kernel_rfl
theorem zval (w : World) : Sem.run Tryd.prog (zeroValue 58) w = .ok (.agg (zc 0)) w := by
  obtain ⟨i, hi, he⟩ := Option.map_eq_some_iff.1 zinfo
  simp [zeroValue, typeInfo, hi, he]
theorem zc_ne (n : Int) : ¬ zc n = #[] := by simp [zc]
theorem zc_set (n m : Int) : (zc n).setIfInBounds 0 (.int .i64 m) = zc m := by simp [zc]
theorem flat2 (a b : Value) : ∀ m i, i < m → (List.replicate m [a, b]).flatten[i * 2]? = some a ∧ (List.replicate m [a, b]).flatten[i * 2 + 1]? = some b
  | 0, i, h => by omega
  | m + 1, 0, h => by simp [List.replicate_succ]
  | m + 1, i + 1, h => by
    have := flat2 a b m i (by omega)
    rw [List.replicate_succ, List.flatten_cons, show (i + 1) * 2 = i * 2 + 2 by omega]
    exact this
theorem zc_lay (w : World) (n : Nat) : Lay (w.alloc (.cells (zc n) 58)) w.heap.size n none0 := by
  refine ⟨_, alloc_at w _, rfl, fun i hi => ?_⟩
  have := flat2 (.int .u32 0) (.bool false) 256 i hi
  unfold zc
  rw [Nat.add_comm 1, show i * 2 + 1 + 1 = (i * 2 + 1) + 1 from rfl]
  simp only [List.getElem?_toArray, List.getElem?_cons_succ]
  exact this
theorem new_yes {w : World} (n : Nat) (h1 : 1 ≤ n) (hn : n ≤ 256) :
    Calls Tryd.prog 4 #[.int .i64 n] w fun e w' => e = .returned (.tuple #[.pointer (some ⟨w.heap.size, 0, none⟩), .int .i64 0]) ∧ Tab w' w.heap.size n none0 ∧ Below w.heap.size w w' := by
  have a1 : ¬ (n : Int) < 1 := by omega
  have a2 : ¬ (256 : Int) < n := by omega
  have z1 := zval
  have z2 := zc_ne 0
  have z3 := zc_set 0 n
  have hp : Hid (Tab (w.alloc (.cells (zc n) 58)) w.heap.size n none0) := ⟨zc_lay w n, h1, hn, Good.zero n⟩
  have hb := alloc_below w (.cells (zc n) 58)
  go_enter Tryd.func4, Tryd.ntmps4
  go_wp2
  go_ret2
  exact ⟨rfl, hp.out, hb⟩
theorem new_no {w : World} (n : Int) (h : n < 1 ∨ 256 < n) :
    Calls Tryd.prog 4 #[.int .i64 n] w fun e w' => e = .returned (.tuple #[.pointer none, .int .i64 1]) ∧ w' = w := by
  by_cases h1 : n < 1
  · go_enter Tryd.func4, Tryd.ntmps4
    go_wp2
    go_ret2
    exact ⟨rfl, rfl⟩
  · have h2 : 256 < n := by omega
    go_enter Tryd.func4, Tryd.ntmps4
    go_wp2
    go_ret2
    exact ⟨rfl, rfl⟩
theorem place_nil {w : World} (h : Int) :
    Calls Tryd.prog 10 #[.pointer none, .int .u32 h] w fun e w' => e = .returned (.tuple #[.int .i64 0, .int .i64 2]) ∧ w' = w := by
  go_enter Tryd.func10, Tryd.ntmps10
  go_wp2_with (go_at_call 17; refine there_nil.mono ?_; rintro e wx ⟨rfl, rfl⟩)
  go_ret2
  exact ⟨rfl, rfl⟩
theorem place_zero {w : World} {p : Nat} (h0 : w.cell? ⟨p, 0, none⟩ = some (.int .i64 0)) (h : Int) :
    Calls Tryd.prog 10 #[.pointer (some ⟨p, 0, none⟩), .int .u32 h] w fun e w' => e = .returned (.tuple #[.int .i64 0, .int .i64 2]) ∧ w' = w := by
  go_enter Tryd.func10, Tryd.ntmps10
  go_wp2_with (go_at_call 17; refine (there_zero h0).mono ?_; rintro e wx ⟨rfl, rfl⟩)
  go_ret2
  exact ⟨rfl, rfl⟩
set_option maxHeartbeats 1000000 in
theorem place_any {w : World} {p n : Nat} {s : Slots} (H : Tab w p n s) (h : Nat) (hh : h ≤ 4294967295) :
    Calls Tryd.prog 10 #[.pointer (some ⟨p, 0, none⟩), .int .u32 (h : Nat)] w fun e w' => e = .returned (.tuple #[.int .i64 (placeP s h : Nat), .int .i64 (placeE s h)]) ∧ Below w.heap.size w w' := by
  have hm := H.lay.many
  have h1 := H.lo
  have hT := there_yes hm h1
  have e1 : Int.tmod (h : Int) 256 = ((h % 256 : Nat) : Int) := rfl
  have e2 : Int.tdiv (h : Int) 256 = ((h / 256 : Nat) : Int) := rfl
  have hk : h % 256 < 256 := by omega
  have hg : h / 256 ≤ 16777215 := by omega
  have c0 := H.lay.gen (h % 256) hk
  have c1 := H.lay.tak (h % 256) hk
  clear H
  have hkI : ((h % 256 : Nat) : Int) < 256 := by omega
  by_cases q1 : h / 256 = 0
  · have hE : placeE s h = 5 := by unfold placeE; rw [if_pos (Or.inl q1)]
    have hP : placeP s h = 0 := by unfold placeP; rw [hE]; rfl
    rw [hE, hP]
    have q2 : (((h / 256 : Nat) : Int) == 0) = true := by simp; omega
    clear q1
    clear hE hP
    generalize h % 256 = k at *
    generalize h / 256 = g at *
    generalize (s k).1 = sg at *
    generalize (s k).2 = st at *
    go_enter Tryd.func10, Tryd.ntmps10
    go_wp2_with (go_at_call 17; refine hT.mono ?_; rintro e wx ⟨rfl, hwx⟩; obtain rfl := hwx.symm)
    go_ret2
    exact ⟨rfl, alloc_below w _⟩
  · have q2 : (((h / 256 : Nat) : Int) == 0) = false := by simp; omega
    by_cases q3 : (s (h % 256)).1 < h / 256
    · have hE : placeE s h = 5 := by unfold placeE; rw [if_pos (Or.inr q3)]
      have hP : placeP s h = 0 := by unfold placeP; rw [hE]; rfl
      rw [hE, hP]
      have q4 : (((s (h % 256)).1 : Nat) : Int) < ((h / 256 : Nat) : Int) := by omega
      clear q1 q3
      clear hE hP
      generalize h % 256 = k at *
      generalize h / 256 = g at *
      generalize (s k).1 = sg at *
      generalize (s k).2 = st at *
      go_enter Tryd.func10, Tryd.ntmps10
      go_wp2_with (go_at_call 17; refine hT.mono ?_; rintro e wx ⟨rfl, hwx⟩; obtain rfl := hwx.symm)
      go_ret2
      exact ⟨rfl, alloc_below w _⟩
    · have q4 : ¬ (((s (h % 256)).1 : Nat) : Int) < ((h / 256 : Nat) : Int) := by omega
      by_cases q5 : h / 256 < (s (h % 256)).1
      · have hE : placeE s h = 6 := by unfold placeE; rw [if_neg (by omega), if_pos (Or.inl q5)]
        have hP : placeP s h = 0 := by unfold placeP; rw [hE]; rfl
        rw [hE, hP]
        have q6 : ((h / 256 : Nat) : Int) < (((s (h % 256)).1 : Nat) : Int) := by omega
        clear q1 q3 q5
        clear hE hP
        generalize h % 256 = k at *
        generalize h / 256 = g at *
        generalize (s k).1 = sg at *
        generalize (s k).2 = st at *
        go_enter Tryd.func10, Tryd.ntmps10
        go_wp2_with (go_at_call 17; refine hT.mono ?_; rintro e wx ⟨rfl, hwx⟩; obtain rfl := hwx.symm)
        go_ret2
        exact ⟨rfl, alloc_below w _⟩
      · have q6 : ¬ ((h / 256 : Nat) : Int) < (((s (h % 256)).1 : Nat) : Int) := by omega
        by_cases q7 : (s (h % 256)).2 = false
        · have hE : placeE s h = 6 := by unfold placeE; rw [if_neg (by omega), if_pos (Or.inr q7)]
          have hP : placeP s h = 0 := by unfold placeP; rw [hE]; rfl
          rw [hE, hP]
          rw [q7] at c1
          clear q1 q3 q5 q7
          clear hE hP
          generalize h % 256 = k at *
          generalize h / 256 = g at *
          generalize (s k).1 = sg at *
          go_enter Tryd.func10, Tryd.ntmps10
          go_wp2_with (go_at_call 17; refine hT.mono ?_; rintro e wx ⟨rfl, hwx⟩; obtain rfl := hwx.symm)
          go_ret2
          exact ⟨rfl, alloc_below w _⟩
        · have q8 : (s (h % 256)).2 = true := by simpa using q7
          have hE : placeE s h = 0 := placeE_of (by omega) (by omega) q8
          have hP : placeP s h = h % 256 := by unfold placeP; rw [hE]; rfl
          rw [hE, hP]
          rw [q8] at c1
          clear q1 q3 q5 q7 q8
          clear hE hP
          generalize h % 256 = k at *
          generalize h / 256 = g at *
          generalize (s k).1 = sg at *
          go_enter Tryd.func10, Tryd.ntmps10
          go_wp2_with (go_at_call 17; refine hT.mono ?_; rintro e wx ⟨rfl, hwx⟩; obtain rfl := hwx.symm)
          go_ret2
          exact ⟨rfl, alloc_below w _⟩
end Go.Proofs.YtkogmmldkpepaaaDoor
