/- Digits and numbers, by plain lists: what the document's own texts want. No law of the program itself. -/
import Derived.Test.YtdneldjnkkpmoaaDoorFieldsPure
namespace Go.Proofs.YtdneldjnkkpmoaaDoor
open Go Go.RowKit
set_option maxRecDepth 100000
set_option linter.unusedSimpArgs false
set_option linter.unusedVariables false
theorem rev_ind {α : Type} {P : List α → Prop} (h0 : P []) (h1 : ∀ p c, P p → P (p ++ [c])) (l : List α) : P l := by
  have : ∀ l : List α, P l.reverse := by
    intro l
    induction l with
    | nil => exact h0
    | cons x l ih => rw [List.reverse_cons]; exact h1 _ _ ih
  rw [← List.reverse_reverse l]
  exact this _
/-- a row of digits as a number -/
def nb (l : List UInt8) : Nat := l.foldl (fun n c => 10 * n + (c.toNat - 48)) 0
theorem nb_snoc (l : List UInt8) (c : UInt8) : nb (l ++ [c]) = 10 * nb l + (c.toNat - 48) := by simp [nb]
/-- digits alone -/
def digs (l : List UInt8) : Prop := ∀ c ∈ l, 48 ≤ c.toNat ∧ c.toNat ≤ 57
instance (l : List UInt8) : Decidable (digs l) := by unfold digs; infer_instance
theorem digs_dec (n : Nat) : digs (Lib.decDigits n) := decDigits_mem n
theorem nb_dec (n : Nat) : nb (Lib.decDigits n) = n := by
  induction n using Nat.strongRecOn with
  | _ n ih =>
    by_cases h : n < 10
    · rw [decDigits_small n h]
      simp only [nb, List.foldl_cons, List.foldl_nil, dig_toNat n h]
      omega
    · rw [decDigits_big n h, nb_snoc, ih (n / 10) (by omega), dig_toNat _ (by omega)]
      omega
theorem nb_pos : ∀ (l : List UInt8) (c : UInt8), digs (c :: l) → c ≠ 48 → 1 ≤ nb (c :: l) := by
  refine rev_ind ?_ ?_
  · intro c hd h
    have := hd c (by simp)
    have h48 : c.toNat ≠ 48 := fun e => h (UInt8.toNat_inj.1 (by rw [e]; rfl))
    simp only [nb, List.foldl_cons, List.foldl_nil]
    omega
  · intro l x ih c hd h
    rw [← List.cons_append, nb_snoc]
    have := ih c (fun y hy => hd y (by rw [← List.cons_append]; exact List.mem_append_left _ hy)) h
    omega
theorem dec_nb : ∀ (l : List UInt8), l ≠ [] → digs l → (1 < l.length → l.head? ≠ some 48) → Lib.decDigits (nb l) = l := by
  refine rev_ind ?_ ?_
  · intro h; exact absurd rfl h
  · intro p c ih _ hd hh
    have hc := hd c (by simp)
    cases p with
    | nil =>
      rw [nb_snoc]
      have e : 10 * nb [] + (c.toNat - 48) = c.toNat - 48 := by simp [nb]
      rw [e, decDigits_small _ (by omega), show 48 + (c.toNat - 48) = c.toNat by omega]
      simp
    | cons x p =>
      have hx : x ≠ 48 := by
        intro e
        exact hh (by simp) (by rw [e]; rfl)
      have hdp : digs (x :: p) := fun y hy => hd y (List.mem_append_left _ hy)
      have h1 := nb_pos p x hdp hx
      have hi := ih (by simp) hdp (fun _ => by simp [hx])
      rw [nb_snoc, decDigits_big _ (by omega), show (10 * nb (x :: p) + (c.toNat - 48)) / 10 = nb (x :: p) by omega, show (10 * nb (x :: p) + (c.toNat - 48)) % 10 = c.toNat - 48 by omega, hi, show 48 + (c.toNat - 48) = c.toNat by omega]
      simp
theorem dec_head (n : Nat) (h : 10 ≤ n) : (Lib.decDigits n).head? ≠ some 48 := by
  induction n using Nat.strongRecOn with
  | _ n ih =>
    rw [decDigits_big n (by omega)]
    by_cases h2 : n / 10 < 10
    · rw [decDigits_small _ h2]
      simp only [List.singleton_append, List.head?_cons]
      intro e
      have := congrArg UInt8.toNat (Option.some.inj e)
      rw [dig_toNat _ h2] at this
      have h48 : (48 : UInt8).toNat = 48 := rfl
      omega
    · have := ih (n / 10) (by omega) (by omega)
      have hne := decDigits_ne (n / 10)
      obtain ⟨x, r, hx⟩ := List.exists_cons_of_ne_nil hne
      rw [hx] at this ⊢
      simpa using this
/-- the document's number of a text: -1 if it is none -/
def numb (l : List UInt8) (most : Int) : Int :=
  if l = [] ∨ 10 < l.length ∨ (1 < l.length ∧ l.head? = some 48) ∨ ¬ digs l ∨ most < nb l then -1 else nb l
theorem numb_dec (n : Nat) (most : Int) (h : (n : Int) ≤ most) (h5 : n < 100000) : numb (Lib.decDigits n) most = n := by
  have h1 := decDigits_len n h5
  have h2 := decDigits_ne n
  unfold numb
  rw [if_neg, nb_dec]
  rw [nb_dec]
  intro hh
  rcases hh with hh | hh | hh | hh | hh
  · exact h2 hh
  · omega
  · by_cases h10 : 10 ≤ n
    · exact dec_head n h10 hh.2
    · rw [decDigits_small n (by omega)] at hh
      simp at hh
  · exact hh (digs_dec n)
  · omega
theorem numb_some (l : List UInt8) (most : Int) (n : Int) (h0 : 0 ≤ n) (h : numb l most = n) : l = Lib.decDigits n.toNat ∧ n ≤ most := by
  unfold numb at h
  split at h
  · omega
  · rename_i hh
    have h1 : l ≠ [] := fun e => hh (Or.inl e)
    have h2 : ¬ (1 < l.length ∧ l.head? = some 48) := fun e => hh (Or.inr (Or.inr (Or.inl e)))
    have h3 : digs l := Classical.byContradiction fun e => hh (Or.inr (Or.inr (Or.inr (Or.inl e))))
    have h4 : ¬ most < nb l := fun e => hh (Or.inr (Or.inr (Or.inr (Or.inr e))))
    have := dec_nb l h1 h3 (fun a b => h2 ⟨a, b⟩)
    rw [← h]
    exact ⟨by rw [Int.toNat_natCast]; exact this.symm, by omega⟩
theorem numb_bd (l : List UInt8) (most : Int) (hm : 0 ≤ most) : -1 ≤ numb l most ∧ numb l most ≤ most := by
  unfold numb
  split
  · omega
  · rename_i hh
    have h4 : ¬ most < nb l := fun e => hh (Or.inr (Or.inr (Or.inr (Or.inr e))))
    omega
theorem itoa_pos (n : Int) (h : 0 ≤ n) : Lib.itoa n = Lib.decDigits n.toNat := by unfold Lib.itoa; rw [if_neg (by omega)]
theorem itoa_neg (n : Int) (h : n < 0) : Lib.itoa n = 45 :: Lib.decDigits (-n).toNat := by
  unfold Lib.itoa
  rw [if_pos h]
  congr 2
  omega
theorem nb_bound : ∀ (l : List UInt8), digs l → nb l < 10 ^ l.length := by
  refine rev_ind ?_ ?_
  · intro _; simp [nb]
  · intro p c ih h
    have h1 := ih (fun y hy => h y (List.mem_append_left _ hy))
    have h2 := h c (by simp)
    rw [nb_snoc, List.length_append, List.length_singleton, Nat.pow_succ]
    omega
end Go.Proofs.YtdneldjnkkpmoaaDoor
