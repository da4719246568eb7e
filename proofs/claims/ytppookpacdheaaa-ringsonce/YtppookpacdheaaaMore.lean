/- Lists of numbers, each once; lists that are turned. No law of the program itself. -/
import Derived.Test.YtppookpacdheaaaPure
namespace Go.Proofs.Ytppookpacdheaaa
open Go Go.RowKit
set_option maxRecDepth 100000
set_option linter.unusedVariables false
/-- numbers from 0 on, each once -/
def Good (xs : List Int) : Prop := xs.Nodup ∧ ∀ x ∈ xs, 0 ≤ x
theorem Good.nil : Good [] := ⟨List.nodup_nil, fun x h => by cases h⟩
theorem addE_zero {xs : List Int} {n : Nat} {z : Int} (h : addE xs n z = 0) : 0 ≤ z ∧ z ∉ xs ∧ xs.length ≠ n := by
  unfold addE at h
  split at h
  · omega
  · split at h
    · omega
    · split at h
      · omega
      · exact ⟨by omega, by assumption, by assumption⟩
theorem nodup_snoc {xs : List Int} {z : Int} (h : xs.Nodup) (hz : z ∉ xs) : (xs ++ [z]).Nodup := by
  rw [List.nodup_append]
  refine ⟨h, by simp, fun a ha b hb => ?_⟩
  simp at hb
  subst hb
  exact fun e => hz (e ▸ ha)
theorem Good.put {xs : List Int} (h : Good xs) (n : Nat) (z : Int) : Good (putL xs n z) := by
  unfold putL
  split
  · obtain ⟨h0, h1, _⟩ := addE_zero (by assumption)
    refine ⟨nodup_snoc h.1 h1, fun x hx => ?_⟩
    rcases List.mem_append.1 hx with hx | hx
    · exact h.2 x hx
    · simp at hx; omega
  · exact h
theorem Good.push {xs : List Int} (h : Good xs) (n : Nat) (z : Int) : Good (pushL xs n z) := by
  unfold pushL
  split
  · obtain ⟨h0, h1, _⟩ := addE_zero (by assumption)
    refine ⟨List.nodup_cons.2 ⟨h1, h.1⟩, fun x hx => ?_⟩
    rcases List.mem_cons.1 hx with rfl | hx
    · exact h0
    · exact h.2 x hx
  · exact h
theorem Good.tail {xs : List Int} (h : Good xs) : Good xs.tail := ⟨h.1.sublist (List.tail_sublist xs), fun x hx => h.2 x (List.mem_of_mem_tail hx)⟩
theorem Good.erase {xs : List Int} (h : Good xs) (z : Int) : Good (xs.erase z) := ⟨h.1.sublist List.erase_sublist, fun x hx => h.2 x (List.mem_of_mem_erase hx)⟩
theorem Good.turn {xs : List Int} (h : Good xs) : Good (turnL xs) := by
  rcases xs with _ | ⟨x, xs⟩
  · exact h
  · obtain ⟨h1, h2⟩ := List.nodup_cons.1 h.1
    refine ⟨nodup_snoc h2 h1, fun y hy => h.2 y ?_⟩
    simp only [turnL, List.tail_cons, List.take_succ_cons, List.take_zero, List.mem_append, List.mem_cons, List.not_mem_nil, or_false] at hy
    rcases hy with hy | hy
    · exact List.mem_cons_of_mem _ hy
    · rw [hy]; exact List.mem_cons_self
theorem gone {xs : List Int} (h : xs.Nodup) (z : Int) : z ∉ xs.erase z := fun k => by
  rw [h.mem_erase_iff] at k
  exact k.1 rfl
theorem erase_len {xs : List Int} {z : Int} (h : z ∈ xs) : (xs.erase z).length + 1 = xs.length := by
  rw [List.length_erase_of_mem h]
  have := List.length_pos_of_mem h
  omega
theorem nodup_at {xs : List Int} (h : xs.Nodup) {i j : Nat} (hi : i < xs.length) (hj : j < xs.length) (e : xs.getD i 0 = xs.getD j 0) : i = j := by
  rw [show xs.getD i 0 = xs[i] by simp [hi], show xs.getD j 0 = xs[j] by simp [hj]] at e
  exact (List.getElem_inj h).1 e
/-- where a number stood that stands once -/
theorem erase_at {xs : List Int} (h : xs.Nodup) {k : Nat} (hk : k < xs.length) : xs.erase (xs.getD k 0) = xs.take k ++ xs.drop (k + 1) := by
  obtain ⟨j, hj, e, _, he⟩ := first_at (getD_mem hk)
  obtain rfl : j = k := nodup_at h hj hk e
  rw [he, List.eraseIdx_eq_take_drop_succ]
/-- a list that is turned so often -/
def rot (xs : List Int) (f : Nat) : List Int := xs.drop f ++ xs.take f
theorem rot_zero (xs : List Int) : rot xs 0 = xs := by simp [rot]
theorem rot_len {xs : List Int} {f : Nat} (hf : f < xs.length) : (rot xs f).length = xs.length := by simp [rot]; omega
theorem rot_turn {xs : List Int} {f : Nat} (hf : f < xs.length) : turnL (rot xs f) = rot xs (sl xs.length f 1) := by
  have hd : xs.drop f = xs[f] :: xs.drop (f + 1) := List.drop_eq_getElem_cons hf
  have ht : xs.take (f + 1) = xs.take f ++ [xs[f]] := by rw [List.take_add_one]; simp [hf]
  unfold sl
  split
  · simp only [turnL, rot, hd, ht, List.cons_append, List.tail_cons, List.take_succ_cons, List.take_zero, List.append_assoc]
  · rw [show f + 1 - xs.length = 0 by omega, rot_zero]
    simp only [turnL, rot, hd, List.cons_append, List.tail_cons, List.take_succ_cons, List.take_zero]
    rw [List.drop_eq_nil_of_le (by omega), List.nil_append, ← ht, List.take_of_length_le (by omega)]
theorem rot_good {xs : List Int} (h : Good xs) (f : Nat) : Good (rot xs f) := by
  have hp : List.Perm (rot xs f) xs := by
    have := List.perm_append_comm (l₁ := xs.drop f) (l₂ := xs.take f)
    rwa [List.take_append_drop] at this
  exact ⟨hp.nodup_iff.2 h.1, fun x hx => h.2 x (hp.mem_iff.1 hx)⟩
theorem rot_mem {xs : List Int} {f : Nat} {x : Int} : x ∈ rot xs f ↔ x ∈ xs := by
  have hp : List.Perm (rot xs f) xs := by
    have := List.perm_append_comm (l₁ := xs.drop f) (l₂ := xs.take f)
    rwa [List.take_append_drop] at this
  exact hp.mem_iff
/-- the number of turns, going round -/
theorem turn_mod {m i : Nat} (hm : 0 < m) : sl m (i % m) 1 = (i + 1) % m := by
  rw [← sl_mod (Nat.mod_lt _ hm) (by omega), Nat.mod_add_mod]
end Go.Proofs.Ytppookpacdheaaa
