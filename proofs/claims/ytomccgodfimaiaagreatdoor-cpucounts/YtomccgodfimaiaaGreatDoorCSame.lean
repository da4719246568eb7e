/- Whether two rows of bytes are the same. -/
import Derived.Test.YtomccgodfimaiaaGreatDoorCNew2
import Derived.LoopN
namespace Go.Proofs.YtomccgodfimaiaaGreatDoor
open Go Go.RowKit
set_option maxRecDepth 100000
set_option linter.all false
theorem eq_of_at {xs ys : List Int} (hl : xs.length = ys.length) (h : ∀ j, j < xs.length → xs.getD j 0 = ys.getD j 0) : xs = ys := by
  apply List.ext_getElem hl
  intro i h1 h2
  have := h i h1
  simpa [h1, h2] using this
theorem ne_of_at {xs ys : List Int} {j : Nat} (h : xs.getD j 0 ≠ ys.getD j 0) : xs ≠ ys := fun e => h (by rw [e])
set_option maxHeartbeats 2000000 in
theorem same_any {w : World} {sp tp : Option Addr} {xs ys : List Int} (hs : Src w sp xs) (ht : Src w tp ys) (hl : xs.length ≤ 1000000) (hl2 : ys.length ≤ 1000000) (c d : Nat) :
    Calls Tryz.prog 24 #[.slice sp xs.length c, .slice tp ys.length d] w fun e w' => e = .returned (.bool (decide (xs = ys))) ∧ Below w.heap.size w w' := by
  by_cases hne : xs.length = ys.length
  · rw [← hne]
    have HS : Hid (Src w sp xs) := hs
    have HT : Hid (Src w tp ys) := ht
    have HN : Hid (xs.length = ys.length) := hne
    obtain ⟨n, hn⟩ : ∃ n, xs.length = n := ⟨_, rfl⟩
    have HX : Hid (xs.length = n) := hn
    rw [hn]
    rw [hn] at hl
    clear hs ht hne hn hl2
    go_enter Tryz.func24, Tryz.ntmps24
    go_wp2
    go_loopg [5] n (fun g s5 wx => ∃ i : Nat, i + g = n ∧ s5 = .int .i64 i ∧ Below w.heap.size w wx ∧ Hid (∀ j, j < i → xs.getD j 0 = ys.getD j 0))
    case atStart => exact ⟨0, by omega, rfl, Below.refl _ _, fun j hj => by omega⟩
    case round =>
      obtain ⟨i, hig, rfl, hB, HA⟩ := hrel
      cases gk with
      | zero =>
        have hlt : ¬ ((i : Int) < n) := by omega
        have HK : Hid (i = n) := by show i = n; omega
        clear hig
        go_wp2
        go_ret
        exact ⟨congrArg (fun b => Ending.returned (Value.bool b)) (show true = decide (xs = ys) from (decide_eq_true (eq_of_at HN.out fun j hj => HA.out j (by rw [HK.out, ← HX.out]; exact hj))).symm), hB⟩
      | succ g =>
        have hlt : (i : Int) < n := by omega
        obtain ⟨b1, o1, rfl, c1⟩ := HS.out (by rw [HX.out]; omega)
        obtain ⟨b2, o2, rfl, c2⟩ := HT.out (by rw [← HN.out, HX.out]; omega)
        have k1 := (hB.cell (p := ⟨b1, o1 + i, none⟩) (cell_lt (c1 i (by rw [HX.out]; omega)))).trans (c1 i (by rw [HX.out]; omega))
        have k2 := (hB.cell (p := ⟨b2, o2 + i, none⟩) (cell_lt (c2 i (by rw [← HN.out, HX.out]; omega)))).trans (c2 i (by rw [← HN.out, HX.out]; omega))
        clear c1 c2
        have HZ : Hid (xs.getD i 0 = ys.getD i 0 ∨ xs.getD i 0 ≠ ys.getD i 0) := Classical.em _
        obtain ⟨z1, hz1⟩ : ∃ z1, xs.getD i 0 = z1 := ⟨_, rfl⟩
        obtain ⟨z2, hz2⟩ : ∃ z2, ys.getD i 0 = z2 := ⟨_, rfl⟩
        rw [hz1] at k1
        rw [hz2] at k2
        have HZ1 : Hid (xs.getD i 0 = z1) := hz1
        have HZ2 : Hid (ys.getD i 0 = z2) := hz2
        clear hz1 hz2
        by_cases hz : z1 = z2
        · subst hz
          go_wp2
          go_quiet ((fail))
          go_wp2
          go_roundg g
          case measure => omega
          case rel => exact ⟨i + 1, by omega, by go_num, hB.trans ((below_drewN _ _).mono hB.size), fun j hj => by
            rcases Nat.lt_or_ge j i with h | h
            · exact HA.out j h
            · obtain rfl : j = i := by omega
              exact HZ1.out.trans HZ2.out.symm⟩
        · have hzb : (z1 == z2) = false := by simpa using hz
          go_wp2
          go_quiet ((fail))
          go_wp2
          go_ret
          exact ⟨congrArg (fun b => Ending.returned (Value.bool b)) (show false = decide (xs = ys) from (decide_eq_false (ne_of_at (j := i) (by rw [HZ1.out, HZ2.out]; exact hz))).symm), hB.trans ((below_drewN _ _).mono hB.size)⟩
  · have hb : (((xs.length : Nat) : Int) == ((ys.length : Nat) : Int)) = false := by simpa using (by omega : ¬ ((xs.length : Int) = ys.length))
    go_enter Tryz.func24, Tryz.ntmps24
    go_wp2
    go_ret
    exact ⟨congrArg (fun b => Ending.returned (Value.bool b)) (show false = decide (xs = ys) from (decide_eq_false fun e => hne (by rw [e])).symm), Below.refl _ _⟩
end Go.Proofs.YtomccgodfimaiaaGreatDoor
