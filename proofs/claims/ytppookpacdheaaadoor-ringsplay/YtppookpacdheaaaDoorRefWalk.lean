/- What the functions of the document's own ring answer. -/
import Derived.Test.YtppookpacdheaaaDoorRef
namespace Go.Proofs.YtppookpacdheaaaDoor
open Go Go.RowKit
set_option maxRecDepth 100000
set_option linter.unusedVariables false
theorem Ref.c1 {B : Nat} {w : World} {q n : Nat} {v : Value} {xs : List Int} (h : Ref B w q n v xs) : w.cell? ⟨q, 1, none⟩ = some (.int .i64 n) := by rw [cell_of h.head]; rfl
theorem Ref.c0 {B : Nat} {w : World} {q n : Nat} {v : Value} {xs : List Int} (h : Ref B w q n v xs) : w.cell? ⟨q, 0, none⟩ = some v := by rw [cell_of h.head]; rfl
theorem Ref.free {B : Nat} {w : World} {q n : Nat} {v : Value} {xs : List Int} (h : Ref B w q n v xs) (i : Nat) : w.frozen? ⟨q, i, none⟩ = false := by simp [World.frozen?, h.head]
theorem rnew_yes {w : World} (n : Nat) (h1 : 1 ≤ n) (hn : n ≤ 1024) :
    Calls Tryd.prog 5 #[.int .i64 n] w fun e w' => e = .returned (.tuple #[.pointer (some ⟨w.heap.size, 0, none⟩), .int .i64 0]) ∧ Ref w.heap.size w' w.heap.size n (.slice none 0 0) [] ∧ Below w.heap.size w w' := by
  have a1 : ¬ (n : Int) < 1 := by omega
  have a2 : ¬ (1024 : Int) < n := by omega
  go_enter Tryd.func5, Tryd.ntmps5
  go_wp2
  go_ret2
  exact ⟨rfl, ⟨alloc_at w _, Or.inl ⟨rfl, rfl⟩, h1, hn, by simp, Nat.le_refl _⟩, alloc_below w _⟩
theorem rnew_no {w : World} (n : Int) (h : n < 1 ∨ 1024 < n) :
    Calls Tryd.prog 5 #[.int .i64 n] w fun e w' => e = .returned (.tuple #[.pointer none, .int .i64 1]) ∧ w' = w := by
  by_cases h1 : n < 1
  · go_enter Tryd.func5, Tryd.ntmps5
    go_wp2
    go_ret2
    exact ⟨rfl, rfl⟩
  · have h2 : 1024 < n := by omega
    go_enter Tryd.func5, Tryd.ntmps5
    go_wp2
    go_ret2
    exact ⟨rfl, rfl⟩
set_option maxHeartbeats 1000000 in
theorem rat_any {B : Nat} {w : World} {q n : Nat} {v : Value} {xs : List Int} (h : Ref B w q n v xs) (z : Int) (k : Nat) (b : Bool)
    (hk : k ≤ xs.length) (hlow : ∀ j, j < k → xs.getD j 0 ≠ z) (hb : b = true → k < xs.length ∧ xs.getD k 0 = z) (hb' : b = false → k = xs.length) :
    Calls Tryd.prog 30 #[.pointer (some ⟨q, 0, none⟩), .int .i64 z] w fun e w' => e = .returned (.int .i64 (if b then (k : Int) else -1)) ∧ w' = w := by
  obtain ⟨sp, cap, rfl, hs⟩ := h.part.src
  have HS : Hid (Src w sp xs) := hs
  have c0 := h.c0
  have hmx : xs.length ≤ 1024 := Nat.le_trans h.len h.hi
  have HL : Hid (∀ j, j < k → xs.getD j 0 ≠ z) := hlow
  have HB : Hid (b = true → k < xs.length ∧ xs.getD k 0 = z) := hb
  have HB' : Hid (b = false → k = xs.length) := hb'
  obtain ⟨m, hm⟩ : ∃ m, xs.length = m := ⟨_, rfl⟩
  have HM : Hid (xs.length = m) := hm
  rw [hm] at c0 hk HB HB' hmx
  clear h hlow hb hb' hm hs
  go_enter Tryd.func30, Tryd.ntmps30
  go_wp2
  go_loopg [5] m (fun g s5 wx => ∃ i : Nat, i + g = m ∧ i ≤ k ∧ s5 = .int .i64 i ∧ w = wx)
  case atStart => exact ⟨0, by omega, by omega, rfl, rfl⟩
  case round =>
    obtain ⟨i, hig, hik, rfl, rfl⟩ := hrel
    cases gk with
    | zero =>
      have hlt : ¬ ((i : Int) < m) := by omega
      have hbf : b = false := by
        cases b
        · rfl
        · have := HB.out rfl; omega
      subst hbf
      go_wp2
      go_ret
      exact ⟨rfl, rfl⟩
    | succ g =>
      have hlt : (i : Int) < m := by omega
      obtain ⟨b2, off, rfl, hc⟩ := HS.out (by have := HM.out; omega)
      have kc := hc i (by have := HM.out; omega)
      clear hc
      by_cases e : i = k
      · have hbt : b = true := by
          cases b
          · have := HB'.out rfl; omega
          · rfl
        subst hbt e
        have hz : xs.getD i 0 = z := (HB.out rfl).2
        rw [hz] at kc
        clear hz
        go_wp2
        go_ret
        exact ⟨rfl, rfl⟩
      · have hz : (xs.getD i 0 == z) = false := by have := HL.out i (by omega); simpa using this
        generalize xs.getD i 0 = y at *
        go_wp2
        go_roundg g
        case measure => omega
        case rel => exact ⟨i + 1, by omega, by omega, by go_num, rfl⟩
theorem rat_in {B : Nat} {w : World} {q n : Nat} {v : Value} {xs : List Int} (h : Ref B w q n v xs) {z : Int} {k : Nat} (hk : k < xs.length) (he : xs.getD k 0 = z) (hlow : ∀ j, j < k → xs.getD j 0 ≠ z) :
    Calls Tryd.prog 30 #[.pointer (some ⟨q, 0, none⟩), .int .i64 z] w fun e w' => e = .returned (.int .i64 (k : Int)) ∧ w' = w :=
  rat_any h z k true (Nat.le_of_lt hk) hlow (fun _ => ⟨hk, he⟩) (fun e => by cases e)
theorem rat_out {B : Nat} {w : World} {q n : Nat} {v : Value} {xs : List Int} (h : Ref B w q n v xs) {z : Int} (hz : z ∉ xs) :
    Calls Tryd.prog 30 #[.pointer (some ⟨q, 0, none⟩), .int .i64 z] w fun e w' => e = .returned (.int .i64 (-1)) ∧ w' = w :=
  rat_any h z xs.length false (Nat.le_refl _) (fun j hj e => hz (by rw [← e]; exact getD_mem hj)) (fun e => by cases e) (fun _ => rfl)
set_option maxHeartbeats 1000000 in
theorem rmay_any {B : Nat} {w : World} {q n : Nat} {v : Value} {xs : List Int} (h : Ref B w q n v xs) (z : Int) :
    Calls Tryd.prog 23 #[.pointer (some ⟨q, 0, none⟩), .int .i64 z] w fun e w' => e = .returned (.int .i64 (addE xs n z)) ∧ ∃ k, w' = w.drewN k := by
  by_cases h0 : z < 0
  · rw [addE_arg h0]
    go_enter Tryd.func23, Tryd.ntmps23
    go_wp2
    go_ret
    exact ⟨rfl, 0, rfl⟩
  · by_cases hm : z ∈ xs
    · rw [addE_state h0 hm]
      obtain ⟨k, hk, he, hlow, _⟩ := first_at hm
      have hP := rat_in h hk he hlow
      have hk0 : (0 : Int) ≤ (k : Int) := by omega
      clear hm he hlow h
      go_enter Tryd.func23, Tryd.ntmps23
      go_wp2_with (first | (go_at_call 30; refine hP.mono ?_; rintro e wx ⟨rfl, hwx⟩; obtain rfl := hwx.symm))
      go_ret
      exact ⟨rfl, 0, rfl⟩
    · have hP := rat_out h hm
      obtain ⟨sp, cap, rfl, hs⟩ := h.part.src
      have c0 := h.c0
      have c1 := h.c1
      by_cases hl : xs.length = n
      · rw [addE_full h0 hm hl]
        have hF : ((xs.length : Int) == (n : Int)) = true := by simp; omega
        clear hm hl hs h
        generalize xs.length = m at *
        go_enter Tryd.func23, Tryd.ntmps23
        go_wp2_with (first | (go_at_call 30; refine hP.mono ?_; rintro e wx ⟨rfl, hwx⟩; obtain rfl := hwx.symm))
        go_quiet ((fail))
        go_wp2
        go_ret
        exact ⟨rfl, _, rfl⟩
      · rw [addE_ok h0 hm hl]
        have hF : ((xs.length : Int) == (n : Int)) = false := by simp; omega
        clear hm hl hs h
        generalize xs.length = m at *
        go_enter Tryd.func23, Tryd.ntmps23
        go_wp2_with (first | (go_at_call 30; refine hP.mono ?_; rintro e wx ⟨rfl, hwx⟩; obtain rfl := hwx.symm))
        go_quiet ((fail))
        go_wp2
        go_ret
        exact ⟨rfl, _, rfl⟩
set_option maxHeartbeats 1000000 in
/-- the list that is told is memory of its own -/
theorem rlist_any {B : Nat} {w : World} {q n : Nat} {v : Value} {xs : List Int} (h : Ref B w q n v xs) :
    Calls Tryd.prog 18 #[.pointer (some ⟨q, 0, none⟩)] w fun e w' => ∃ sp cap, e = .returned (.slice sp xs.length cap) ∧ Src w' sp xs ∧ Below w.heap.size w w' := by
  have c0 := h.c0
  have hmx : xs.length ≤ 1024 := Nat.le_trans h.len h.hi
  obtain ⟨i0, hi, hz0, hz1, hz2⟩ := info_parts infoW
  rcases h.part with ⟨rfl, rfl⟩ | ⟨b, off, cap, cur, rfl, hB, hh, hc, hsz, hx⟩
  · clear h
    go_enter Tryd.func18, Tryd.ntmps18
    go_wp2
    go_ret
    exact ⟨none, 0, rfl, fun h => by simp at h, Below.refl _ _⟩
  · have HN : Hid (∀ j u, (xs.map (Value.int .i64))[j]? = some u → w.cell? ((⟨b, off, none⟩ : Addr).add j) = some u) := src_news (fun _ => ⟨b, off, rfl, fun i hi => by rw [cell_of hh]; exact hx i hi⟩)
    have D1 : Hid ((xs.map (Value.int .i64)).length = xs.length * 1) := by show _ = _; simp
    clear h hh hx hsz hB
    obtain ⟨m, hm⟩ : ∃ m, xs.length = m := ⟨_, rfl⟩
    have HM : Hid (xs.length = m) := hm
    rw [hm] at c0 D1 hmx hc ⊢
    clear hm
    go_enter Tryd.func18, Tryd.ntmps18
    go_wp2_with (first
      | (at_builtin; refine wpList_append_own _ rfl _ _ 46 rfl w.heap.size 3 i0 (.int .i64 0) 1 8 Tryd.underlying46 hi hz0 hz1 hz2 rfl (by decide) (.slice none 0 0) 0 [] rfl (World.ownsRow_nil _ _ _ _) ⟨b, off, none⟩ m cap (xs.map (Value.int .i64)) rfl D1.out HN.out (ints_one _) (by simp only [maxLen]; omega) (by omega) (Nat.le_refl _) ?_; intro v' w1 ho hg _; rw [Nat.zero_add, List.nil_append, ← HM.out] at ho; obtain ⟨sp1, c1, rfl, hs1⟩ := Src.own ho; have HS : Hid (Src w1 sp1 xs) := hs1; have HB : Hid (Below w.heap.size w w1) := (Buts.grown hg).below (fun x hx => (by simp [Value.ownBlock] at hx)) (Nat.le_refl _); rw [HM.out]; clear ho hg hs1))
    go_ret
    exact ⟨sp1, ⟨c1, rfl⟩, HS.out, HB.out⟩
end Go.Proofs.YtppookpacdheaaaDoor
