/- Those that are told one after the other, the first least one first. No law of the program itself. -/
import Derived.Test.YtdifgjioaikchaaDoorPure
namespace Go.Proofs.YtdifgjioaikchaaDoor
open Go Go.RowKit
set_option linter.unusedVariables false
/-- those that are not told yet -/
def lft : List Bool → List (Int × Int) → List (Int × Int)
  | b :: bs, y :: ys => if b then lft bs ys else y :: lft bs ys
  | _, _ => []
theorem lft_none : ∀ (ys : List (Int × Int)), lft (List.replicate ys.length false) ys = ys
  | [] => rfl
  | y :: ys => by simp [lft, List.replicate_succ, lft_none ys]
theorem lft_split : ∀ (bs : List Bool) (ys : List (Int × Int)) (i : Nat), bs.length = ys.length → i < ys.length → bs.getD i false = false →
    ∃ A C, lft bs ys = A ++ ys.getD i (0, 0) :: C ∧ lft (bs.set i true) ys = A ++ C ∧ (∀ y ∈ A, ∃ k, k < i ∧ bs.getD k false = false ∧ y = ys.getD k (0, 0)) ∧ (∀ y ∈ C, ∃ k, k < ys.length ∧ bs.getD k false = false ∧ y = ys.getD k (0, 0))
  | [], ys, i, hl, hi, _ => by simp only [List.length_nil] at hl; omega
  | b :: bs, [], i, hl, hi, _ => by simp at hi
  | b :: bs, y :: ys, 0, hl, hi, hb => by
    simp only [List.getD_cons_zero] at hb
    subst hb
    refine ⟨[], lft bs ys, by simp [lft], by simp [lft], by simp, fun z hz => ?_⟩
    have : ∀ (bs : List Bool) (ys : List (Int × Int)), bs.length = ys.length → ∀ z ∈ lft bs ys, ∃ k, k < ys.length ∧ bs.getD k false = false ∧ z = ys.getD k (0, 0) := by
      intro bs
      induction bs with
      | nil => intro ys hl z hz; simp [lft] at hz
      | cons b bs ih =>
        intro ys hl z hz
        cases ys with
        | nil => simp [lft] at hz
        | cons y ys =>
          simp only [lft] at hz
          by_cases hb : b = true
          · rw [if_pos hb] at hz
            obtain ⟨k, h1, h2, h3⟩ := ih ys (by simpa using hl) z hz
            exact ⟨k + 1, by simpa using h1, by simpa using h2, by simpa using h3⟩
          · rw [if_neg hb] at hz
            rcases List.mem_cons.1 hz with rfl | hz
            · exact ⟨0, by simp, by simpa using hb, by simp⟩
            · obtain ⟨k, h1, h2, h3⟩ := ih ys (by simpa using hl) z hz
              exact ⟨k + 1, by simpa using h1, by simpa using h2, by simpa using h3⟩
    obtain ⟨k, h1, h2, h3⟩ := this bs ys (by simpa using hl) z hz
    exact ⟨k + 1, by simpa using h1, by simpa using h2, by simpa using h3⟩
  | b :: bs, y :: ys, i + 1, hl, hi, hb => by
    obtain ⟨A, C, h1, h2, h3, h4⟩ := lft_split bs ys i (by simpa using hl) (by simpa using hi) (by simpa using hb)
    have h3' : ∀ z ∈ A, ∃ k, k < i + 1 ∧ (b :: bs).getD k false = false ∧ z = (y :: ys).getD k (0, 0) := fun z hz => by
      obtain ⟨k, a1, a2, a3⟩ := h3 z hz
      exact ⟨k + 1, by omega, by simpa using a2, by simpa using a3⟩
    have h4' : ∀ z ∈ C, ∃ k, k < (y :: ys).length ∧ (b :: bs).getD k false = false ∧ z = (y :: ys).getD k (0, 0) := fun z hz => by
      obtain ⟨k, a1, a2, a3⟩ := h4 z hz
      exact ⟨k + 1, by simpa using a1, by simpa using a2, by simpa using a3⟩
    by_cases hbt : b = true
    · exact ⟨A, C, by simp [lft, hbt, h1], by simp [lft, hbt, h2], h3', h4'⟩
    · refine ⟨y :: A, C, by simp [lft, hbt, h1], by simp [lft, hbt, h2], fun z hz => ?_, h4'⟩
      rcases List.mem_cons.1 hz with rfl | hz
      · exact ⟨0, by omega, by simpa using hbt, by simp⟩
      · exact h3' z hz
theorem foldl_ins_cons {y : Int × Int} : ∀ (C S : List (Int × Int)), (∀ c ∈ C, y.2 ≤ c.2) → C.foldl ins (y :: S) = y :: C.foldl ins S
  | [], S, _ => rfl
  | c :: C, S, h => by
    have h1 := h c (by simp)
    simp only [List.foldl_cons, ins, h1, if_true]
    exact foldl_ins_cons C _ fun d hd => h d (by simp [hd])
theorem srt_first {A C : List (Int × Int)} {y : Int × Int} (hA : ∀ a ∈ A, y.2 < a.2) (hC : ∀ c ∈ C, y.2 ≤ c.2) : srt (A ++ y :: C) = y :: srt (A ++ C) := by
  unfold srt
  rw [List.foldl_append, List.foldl_append, List.foldl_cons]
  have : ins (A.foldl ins []) y = y :: A.foldl ins [] := ins_less fun x hx => hA x (srt_mem.1 hx)
  rw [this, foldl_ins_cons C _ hC]
/-- so many are not told -/
theorem lft_len (bs : List Bool) (ys : List (Int × Int)) (h : ∀ k, k < ys.length → bs.getD k false = true) (hl : bs.length = ys.length) : lft bs ys = [] := by
  induction bs generalizing ys with
  | nil => simp [lft]
  | cons b bs ih =>
    cases ys with
    | nil => simp [lft]
    | cons y ys =>
      have h0 := h 0 (by simp)
      simp only [List.getD_cons_zero] at h0
      simp only [lft, h0, if_true]
      exact ih ys (fun k hk => by simpa using h (k + 1) (by simpa using hk)) (by simpa using hl)
/-- the least of those that are not told, the first of them, among the first so many -/
def Least (bs : List Bool) (ys : List (Int × Int)) (i : Nat) (x : Int) : Prop :=
  (x = -1 ∧ ∀ k, k < i → bs.getD k false = true) ∨ ∃ j : Nat, x = (j : Int) ∧ j < i ∧ bs.getD j false = false ∧ (∀ k, k < i → bs.getD k false = false → (ys.getD j (0, 0)).2 ≤ (ys.getD k (0, 0)).2) ∧ ∀ k, k < j → bs.getD k false = false → (ys.getD j (0, 0)).2 < (ys.getD k (0, 0)).2
theorem Least.start (bs : List Bool) (ys : List (Int × Int)) : Least bs ys 0 (-1) := Or.inl ⟨rfl, fun k hk => by omega⟩
theorem Least.told {bs : List Bool} {ys : List (Int × Int)} {i : Nat} {x : Int} (h : Least bs ys i x) (hb : bs.getD i false = true) : Least bs ys (i + 1) x := by
  rcases h with ⟨rfl, h⟩ | ⟨j, rfl, hj, h1, h2, h3⟩
  · refine Or.inl ⟨rfl, fun k hk => ?_⟩
    rcases Nat.lt_or_ge k i with c | c
    · exact h k c
    · obtain rfl : k = i := by omega
      exact hb
  · refine Or.inr ⟨j, rfl, by omega, h1, fun k hk e => ?_, h3⟩
    rcases Nat.lt_or_ge k i with c | c
    · exact h2 k c e
    · obtain rfl : k = i := by omega
      rw [hb] at e; cases e
theorem Least.first {bs : List Bool} {ys : List (Int × Int)} {i : Nat} {x : Int} (h : Least bs ys i x) (hx : x < 0) (hb : bs.getD i false = false) : Least bs ys (i + 1) i := by
  rcases h with ⟨rfl, h⟩ | ⟨j, rfl, hj, h1, h2, h3⟩
  · refine Or.inr ⟨i, rfl, by omega, hb, fun k hk e => ?_, fun k hk e => by rw [h k hk] at e; cases e⟩
    rcases Nat.lt_or_ge k i with c | c
    · rw [h k c] at e; cases e
    · obtain rfl : k = i := by omega
      exact Int.le_refl _
  · omega
theorem Least.less {bs : List Bool} {ys : List (Int × Int)} {i j : Nat} (h : Least bs ys i j) (hb : bs.getD i false = false) (hc : (ys.getD i (0, 0)).2 < (ys.getD j (0, 0)).2) : Least bs ys (i + 1) i := by
  rcases h with ⟨e, h⟩ | ⟨j', e, hj, h1, h2, h3⟩
  · omega
  · obtain rfl : j = j' := by omega
    refine Or.inr ⟨i, rfl, by omega, hb, fun k hk e => ?_, fun k hk e => ?_⟩
    · rcases Nat.lt_or_ge k i with c | c
      · have := h2 k c e; omega
      · obtain rfl : k = i := by omega
        exact Int.le_refl _
    · have := h2 k hk e; omega
theorem Least.not {bs : List Bool} {ys : List (Int × Int)} {i j : Nat} (h : Least bs ys i j) (hc : ¬ (ys.getD i (0, 0)).2 < (ys.getD j (0, 0)).2) : Least bs ys (i + 1) j := by
  rcases h with ⟨e, h⟩ | ⟨j', e, hj, h1, h2, h3⟩
  · omega
  · obtain rfl : j = j' := by omega
    refine Or.inr ⟨j, rfl, by omega, h1, fun k hk e => ?_, h3⟩
    rcases Nat.lt_or_ge k i with c | c
    · exact h2 k c e
    · obtain rfl : k = i := by omega
      omega
/-- at the end: it is there, and it is the next one -/
theorem Least.next {bs : List Bool} {ys : List (Int × Int)} {x : Int} (h : Least bs ys ys.length x) (hl : bs.length = ys.length) (hne : lft bs ys ≠ []) :
    ∃ j : Nat, x = (j : Int) ∧ j < ys.length ∧ srt (lft bs ys) = ys.getD j (0, 0) :: srt (lft (bs.set j true) ys) := by
  rcases h with ⟨rfl, h⟩ | ⟨j, rfl, hj, h1, h2, h3⟩
  · exact absurd (lft_len bs ys h hl) hne
  · refine ⟨j, rfl, hj, ?_⟩
    obtain ⟨A, C, e1, e2, e3, e4⟩ := lft_split bs ys j hl hj h1
    rw [e1, e2]
    refine srt_first (fun a ha => ?_) (fun c hc => ?_)
    · obtain ⟨k, hk, hb, rfl⟩ := e3 a ha
      exact h3 k hk hb
    · obtain ⟨k, hk, hb, rfl⟩ := e4 c hc
      exact h2 k hk hb
end Go.Proofs.YtdifgjioaikchaaDoor
