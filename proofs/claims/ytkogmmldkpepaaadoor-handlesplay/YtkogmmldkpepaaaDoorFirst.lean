/- What the functions of package handles answer, for every table and every number. -/
import Derived.Test.YtkogmmldkpepaaaDoorTabs
namespace Go.Proofs.YtkogmmldkpepaaaDoor
open Go Go.RowKit
set_option maxRecDepth 100000
set_option linter.unusedVariables false
set_option maxHeartbeats 1000000 in
theorem first_free {w : World} {p n : Nat} {s : Slots} (h : Tab w p n s) (a : Nat) (ha : a ≤ n) (k : Nat) (hk : nxt (fun i => isFr (s i)) a (n - a) = k) :
    Calls Tryd.prog 18 #[.pointer (some ⟨p, 0, none⟩), .int .i64 a, .func (.func 19) #[] #[]] w fun e w' => e = .returned (.tuple #[.int .i64 (if k < n then (k : Int) else 0), .bool (decide (k < n))]) ∧ Below w.heap.size w w' := by
  have hlow : ∀ j, a ≤ j → j < k → (isFr (s j)) = false := fun j h1 h2 => nxt_low (fun i => isFr (s i)) (n - a) a j h1 (by omega)
  have hyes : k < n → (isFr (s k)) = true := fun h1 => by have := nxt_yes (fun i => isFr (s i)) (n - a) a (by omega); rw [hk] at this; exact this
  have hle : k ≤ n := by have := nxt_le (fun i => isFr (s i)) (n - a) a; omega
  have hge : a ≤ k := by have := nxt_ge (fun i => isFr (s i)) (n - a) a; omega
  have hn := h.hi
  have HT : Hid (Tab w p n s) := h
  have HL : Hid (∀ j, a ≤ j → j < k → (isFr (s j)) = false) := hlow
  have HY : Hid (k < n → (isFr (s k)) = true) := hyes
  clear hlow hyes h hk
  obtain ⟨r, hr⟩ : ∃ r : Int, (if k < n then (k : Int) else 0) = r := ⟨_, rfl⟩
  obtain ⟨b, hb⟩ : ∃ b : Bool, decide (k < n) = b := ⟨_, rfl⟩
  rw [hr, hb]
  have HR : Hid ((if k < n then (k : Int) else 0) = r) := hr
  have HD : Hid (decide (k < n) = b) := hb
  clear hr hb
  go_enter Tryd.func18, Tryd.ntmps18
  go_wp2
  go_loopg [8] (n - a) (fun g s8 wx => ∃ i : Nat, i + g = n ∧ a ≤ i ∧ i ≤ k ∧ s8 = .int .i64 i ∧ Hid (Below w.heap.size w wx))
  case atStart => exact ⟨a, by omega, by omega, by omega, rfl, Below.refl _ _⟩
  case round =>
    obtain ⟨i, hig, hai, hik, rfl, HB⟩ := hrel
    have H2 : Hid (Tab wr p n s) := HT.out.below HB.out
    have c0 := H2.out.lay.many
    cases gk with
    | zero =>
      have hlt : ¬ ((i : Int) < n) := by omega
      go_wp2
      go_ret2
      refine ⟨?_, HB.out⟩
      rw [← HR.out, ← HD.out, if_neg (by omega), decide_eq_false (by omega)]
      rfl
    | succ q =>
      have hlt : (i : Int) < n := by omega
      have hlt2 : (i : Int) < 256 := by omega
      have c1 := H2.out.lay.gen i (by omega)
      have c2 := H2.out.lay.tak i (by omega)
      have hC := cFree_any (w := wr) (s i).1 (s i).2
      by_cases e : i = k
      · subst e
        have hq := HY.out (by omega)
        rw [show (s i) = ((s i).1, (s i).2) from rfl] at hq
        rw [hq] at hC
        clear hq
        generalize (s i).2 = t at *
        generalize (s i).1 = g at *
        go_wp2_with (first | (go_at_call 19; refine hC.mono ?_; rintro e w2 ⟨rfl, hb⟩))
        go_ret2
        refine ⟨?_, HB.out.trans (hb.mono HB.out.size)⟩
        rw [← HR.out, ← HD.out, if_pos (by omega), decide_eq_true (by omega)]
        rfl
      · have hq := HL.out i (by omega) (by omega)
        rw [show (s i) = ((s i).1, (s i).2) from rfl] at hq
        rw [hq] at hC
        clear hq
        generalize (s i).2 = t at *
        generalize (s i).1 = g at *
        go_wp2_with (first | (go_at_call 19; refine hC.mono ?_; rintro e w2 ⟨rfl, hb⟩; have HB2 : Hid (Below w.heap.size w w2) := HB.out.trans (hb.mono HB.out.size); clear hb))
        go_roundg q
        case measure => omega
        case rel => exact ⟨i + 1, by omega, by omega, by omega, by go_num, HB2⟩
set_option maxHeartbeats 1000000 in
theorem first_taken {w : World} {p n : Nat} {s : Slots} (h : Tab w p n s) (a : Nat) (ha : a ≤ n) (k : Nat) (hk : nxt (fun i => (s i).2) a (n - a) = k) :
    Calls Tryd.prog 18 #[.pointer (some ⟨p, 0, none⟩), .int .i64 a, .func (.func 22) #[] #[]] w fun e w' => e = .returned (.tuple #[.int .i64 (if k < n then (k : Int) else 0), .bool (decide (k < n))]) ∧ Below w.heap.size w w' := by
  have hlow : ∀ j, a ≤ j → j < k → ((s j).2) = false := fun j h1 h2 => nxt_low (fun i => (s i).2) (n - a) a j h1 (by omega)
  have hyes : k < n → ((s k).2) = true := fun h1 => by have := nxt_yes (fun i => (s i).2) (n - a) a (by omega); rw [hk] at this; exact this
  have hle : k ≤ n := by have := nxt_le (fun i => (s i).2) (n - a) a; omega
  have hge : a ≤ k := by have := nxt_ge (fun i => (s i).2) (n - a) a; omega
  have hn := h.hi
  have HT : Hid (Tab w p n s) := h
  have HL : Hid (∀ j, a ≤ j → j < k → ((s j).2) = false) := hlow
  have HY : Hid (k < n → ((s k).2) = true) := hyes
  clear hlow hyes h hk
  obtain ⟨r, hr⟩ : ∃ r : Int, (if k < n then (k : Int) else 0) = r := ⟨_, rfl⟩
  obtain ⟨b, hb⟩ : ∃ b : Bool, decide (k < n) = b := ⟨_, rfl⟩
  rw [hr, hb]
  have HR : Hid ((if k < n then (k : Int) else 0) = r) := hr
  have HD : Hid (decide (k < n) = b) := hb
  clear hr hb
  go_enter Tryd.func18, Tryd.ntmps18
  go_wp2
  go_loopg [8] (n - a) (fun g s8 wx => ∃ i : Nat, i + g = n ∧ a ≤ i ∧ i ≤ k ∧ s8 = .int .i64 i ∧ Hid (Below w.heap.size w wx))
  case atStart => exact ⟨a, by omega, by omega, by omega, rfl, Below.refl _ _⟩
  case round =>
    obtain ⟨i, hig, hai, hik, rfl, HB⟩ := hrel
    have H2 : Hid (Tab wr p n s) := HT.out.below HB.out
    have c0 := H2.out.lay.many
    cases gk with
    | zero =>
      have hlt : ¬ ((i : Int) < n) := by omega
      go_wp2
      go_ret2
      refine ⟨?_, HB.out⟩
      rw [← HR.out, ← HD.out, if_neg (by omega), decide_eq_false (by omega)]
      rfl
    | succ q =>
      have hlt : (i : Int) < n := by omega
      have hlt2 : (i : Int) < 256 := by omega
      have c1 := H2.out.lay.gen i (by omega)
      have c2 := H2.out.lay.tak i (by omega)
      have hC := cTaken_any (w := wr) (s i).1 (s i).2
      by_cases e : i = k
      · subst e
        have hq := HY.out (by omega)
        rw [hq] at hC c2
        clear hq
        generalize (s i).1 = g at *
        go_wp2_with (first | (go_at_call 22; refine hC.mono ?_; rintro e w2 ⟨rfl, hb⟩))
        go_ret2
        refine ⟨?_, HB.out.trans (hb.mono HB.out.size)⟩
        rw [← HR.out, ← HD.out, if_pos (by omega), decide_eq_true (by omega)]
        rfl
      · have hq := HL.out i (by omega) (by omega)
        rw [hq] at hC c2
        clear hq
        generalize (s i).1 = g at *
        go_wp2_with (first | (go_at_call 22; refine hC.mono ?_; rintro e w2 ⟨rfl, hb⟩; have HB2 : Hid (Below w.heap.size w w2) := HB.out.trans (hb.mono HB.out.size); clear hb))
        go_roundg q
        case measure => omega
        case rel => exact ⟨i + 1, by omega, by omega, by omega, by go_num, HB2⟩
end Go.Proofs.YtkogmmldkpepaaaDoor
