/- Those who wait, as plain lists: what each answer is. No law of the program itself. -/
import Derived.Test.YtmdhlgdikchhlaaDoorRows
import Derived.WalkKit
import Derived.ProofKit
import Derived.OpenShut
namespace Go.Proofs.YtmdhlgdikchhlaaDoor
open Go Go.RowKit
set_option maxRecDepth 100000
set_option linter.unusedVariables false
/-- where somebody is -/
def wi (xs : List (Int × Int)) (who : Int) : Nat := xs.findIdx (fun y => y.1 == who)
/-- where one of a rank is put -/
def ri (xs : List (Int × Int)) (r : Int) : Nat := xs.findIdx (fun y => decide (y.2 < r))
def has (xs : List (Int × Int)) (who : Int) : Bool := decide (wi xs who < xs.length)
def ins (xs : List (Int × Int)) (z : Int × Int) : List (Int × Int) := xs.insertIdx (ri xs z.2) z
def gone (xs : List (Int × Int)) (who : Int) : List (Int × Int) := xs.eraseIdx (wi xs who)
def badR (r : Int) : Prop := r < 0 ∨ 31 < r
instance (r : Int) : Decidable (badR r) := by unfold badR; infer_instance
def badA (who r : Int) : Prop := who < 0 ∨ r < 0 ∨ 31 < r
instance (who r : Int) : Decidable (badA who r) := by unfold badA; infer_instance
def putE (xs : List (Int × Int)) (who r : Int) : Int := if badA who r then 1 else if has xs who = true then 7 else 0
def putL (xs : List (Int × Int)) (who r : Int) : List (Int × Int) := if badA who r then xs else if has xs who = true then xs else ins xs (who, r)
def remE (xs : List (Int × Int)) (who : Int) : Int := if has xs who = true then 0 else 1
def rkOf (xs : List (Int × Int)) (who : Int) : Int := (xs.getD (wi xs who) (0, 0)).2
def chE (xs : List (Int × Int)) (who r : Int) : Int := if has xs who = true then (if badR r then 1 else 0) else 1
def chL (xs : List (Int × Int)) (who r : Int) : List (Int × Int) := if has xs who = true then (if badR r then xs else if rkOf xs who = r then xs else ins (gone xs who) (who, r)) else xs
def fsv (xs : List (Int × Int)) : Int := (xs.getD 0 (0, 0)).1
def fsb (xs : List (Int × Int)) : Bool := decide (0 < xs.length)
def keys (xs : List (Int × Int)) : List Int := xs.map Prod.fst
theorem ri_le (xs : List (Int × Int)) (r : Int) : ri xs r ≤ xs.length := List.findIdx_le_length
theorem wi_le (xs : List (Int × Int)) (who : Int) : wi xs who ≤ xs.length := List.findIdx_le_length
theorem getD_at {xs : List (Int × Int)} {i : Nat} (h : i < xs.length) : xs.getD i (0, 0) = xs[i] := by simp [List.getD_eq_getElem?_getD, h]
theorem getD_mem {xs : List (Int × Int)} {i : Nat} (h : i < xs.length) : xs.getD i (0, 0) ∈ xs := by rw [getD_at h]; exact List.getElem_mem h
theorem idx_eq {p : Int × Int → Bool} {xs : List (Int × Int)} {k : Nat} (hk : k ≤ xs.length) (h1 : ∀ i, i < k → p (xs.getD i (0, 0)) = false) (h2 : k < xs.length → p (xs.getD k (0, 0)) = true) : xs.findIdx p = k := by
  rcases Nat.lt_or_ge k xs.length with h | h
  · have := h2 h
    rw [getD_at h] at this
    rw [List.findIdx_eq h]
    exact ⟨this, fun j hj => by have := h1 j hj; rwa [getD_at (by omega)] at this⟩
  · obtain rfl : k = xs.length := by omega
    rw [List.findIdx_eq_length]
    intro x hx
    obtain ⟨i, hi, rfl⟩ := List.getElem_of_mem hx
    have := h1 i hi
    rwa [getD_at hi] at this
theorem wi_is {xs : List (Int × Int)} {who : Int} {k : Nat} (hk : k ≤ xs.length) (h1 : ∀ i, i < k → (xs.getD i (0, 0)).1 ≠ who) (h2 : k < xs.length → (xs.getD k (0, 0)).1 = who) : wi xs who = k :=
  idx_eq hk (fun i hi => by simpa using h1 i hi) (fun h => by simpa using h2 h)
theorem ri_is {xs : List (Int × Int)} {r : Int} {k : Nat} (hk : k ≤ xs.length) (h1 : ∀ i, i < k → ¬ (xs.getD i (0, 0)).2 < r) (h2 : k < xs.length → (xs.getD k (0, 0)).2 < r) : ri xs r = k :=
  idx_eq hk (fun i hi => by simpa using h1 i hi) (fun h => by simpa using h2 h)
theorem wi_at {xs : List (Int × Int)} {who : Int} (h : wi xs who < xs.length) : (xs.getD (wi xs who) (0, 0)).1 = who := by
  rw [getD_at h]
  have := List.findIdx_getElem (p := fun y : Int × Int => y.1 == who) (xs := xs) (w := h)
  exact beq_iff_eq.1 this
theorem wi_no {xs : List (Int × Int)} {who : Int} {i : Nat} (h : i < wi xs who) : (xs.getD i (0, 0)).1 ≠ who := by
  have hl := wi_le xs who
  rw [getD_at (by omega)]
  have := List.not_of_lt_findIdx (p := fun y : Int × Int => y.1 == who) (xs := xs) h
  simpa using this
theorem ri_at {xs : List (Int × Int)} {r : Int} (h : ri xs r < xs.length) : (xs.getD (ri xs r) (0, 0)).2 < r := by
  rw [getD_at h]
  have := List.findIdx_getElem (p := fun y : Int × Int => decide (y.2 < r)) (xs := xs) (w := h)
  exact of_decide_eq_true this
theorem ri_no {xs : List (Int × Int)} {r : Int} {i : Nat} (h : i < ri xs r) : r ≤ (xs.getD i (0, 0)).2 := by
  have hl := ri_le xs r
  rw [getD_at (by omega)]
  have := List.not_of_lt_findIdx (p := fun y : Int × Int => decide (y.2 < r)) (xs := xs) h
  simpa using this
theorem has_yes {xs : List (Int × Int)} {who : Int} : has xs who = true ↔ ∃ y ∈ xs, y.1 = who := by
  unfold has wi
  rw [decide_eq_true_iff, List.findIdx_lt_length]
  simp
theorem has_no {xs : List (Int × Int)} {who : Int} : has xs who = false ↔ ∀ y ∈ xs, y.1 ≠ who := by
  rw [← Bool.not_eq_true, has_yes]
  exact ⟨fun h y hy e => h ⟨y, hy, e⟩, fun h ⟨y, hy, e⟩ => h y hy e⟩
theorem has_lt {xs : List (Int × Int)} {who : Int} (h : has xs who = true) : wi xs who < xs.length := by simpa [has] using h
theorem has_ge {xs : List (Int × Int)} {who : Int} (h : has xs who = false) : wi xs who = xs.length := by
  have h1 : ¬ wi xs who < xs.length := by simpa [has] using h
  have := wi_le xs who
  omega
theorem insert_split {α : Type} : ∀ (xs : List α) (k : Nat) (z : α), k ≤ xs.length → xs.insertIdx k z = xs.take k ++ z :: xs.drop k
  | xs, 0, z, _ => by simp
  | [], k + 1, z, h => by simp at h
  | x :: r, k + 1, z, h => by
    have := insert_split r k z (by simpa using h)
    simp [List.insertIdx_succ_cons, this]
theorem ins_split (xs : List (Int × Int)) (z : Int × Int) : ins xs z = xs.take (ri xs z.2) ++ z :: xs.drop (ri xs z.2) := by
  unfold ins
  exact insert_split xs _ z (ri_le xs z.2)
theorem ins_perm (xs : List (Int × Int)) (z : Int × Int) : (ins xs z).Perm (z :: xs) := by
  rw [ins_split]
  refine List.perm_middle.trans ?_
  rw [List.take_append_drop]
theorem ins_len (xs : List (Int × Int)) (z : Int × Int) : (ins xs z).length = xs.length + 1 := by rw [(ins_perm xs z).length_eq]; rfl
theorem gone_len (xs : List (Int × Int)) (who : Int) : (gone xs who).length ≤ xs.length := by unfold gone; rw [List.length_eraseIdx]; split <;> omega
theorem gone_no {xs : List (Int × Int)} {who : Int} (h : has xs who = false) : gone xs who = xs := by
  unfold gone
  rw [has_ge h]
  exact List.eraseIdx_of_length_le (Nat.le_refl _)
structure Good (xs : List (Int × Int)) : Prop where
  lo : ∀ y ∈ xs, 0 ≤ y.1
  nd : (keys xs).Nodup
theorem Good.nil : Good [] := ⟨fun y h => by simp at h, by simp [keys]⟩
theorem Good.ins {xs : List (Int × Int)} (h : Good xs) {who r : Int} (h0 : 0 ≤ who) (hn : has xs who = false) : Good (ins xs (who, r)) := by
  have hp := ins_perm xs (who, r)
  refine ⟨fun y hy => ?_, ?_⟩
  · rcases List.mem_cons.1 (hp.mem_iff.1 hy) with rfl | hy
    · exact h0
    · exact h.lo y hy
  · unfold keys
    rw [(hp.map Prod.fst).nodup_iff]
    simp only [List.map_cons, List.nodup_cons]
    refine ⟨fun hm => ?_, h.nd⟩
    obtain ⟨y, hy, e⟩ := List.mem_map.1 hm
    exact has_no.1 hn y hy e
theorem gone_keys (xs : List (Int × Int)) (who : Int) : keys (gone xs who) = (keys xs).eraseIdx (wi xs who) := by simp [keys, gone, List.eraseIdx_eq_take_drop_succ, List.map_take, List.map_drop]
theorem gone_mem {xs : List (Int × Int)} {who : Int} {y : Int × Int} (h : y ∈ gone xs who) : y ∈ xs := List.mem_of_mem_eraseIdx h
theorem Good.gone {xs : List (Int × Int)} (h : Good xs) (who : Int) : Good (gone xs who) := by
  refine ⟨fun y hy => h.lo y (gone_mem hy), ?_⟩
  rw [gone_keys]
  exact h.nd.sublist (List.eraseIdx_sublist _ _)
theorem Good.went {xs : List (Int × Int)} (h : Good xs) (who : Int) : has (Go.Proofs.YtmdhlgdikchhlaaDoor.gone xs who) who = false := by
  by_cases hh : has xs who = true
  · refine has_no.2 fun y hy e => ?_
    have hlt := has_lt hh
    have hm : who ∈ keys (Go.Proofs.YtmdhlgdikchhlaaDoor.gone xs who) := List.mem_map.2 ⟨y, hy, e⟩
    rw [gone_keys] at hm
    have hk : (keys xs)[wi xs who]'(by simpa [keys] using hlt) = who := by
      have := wi_at hlt
      rw [getD_at hlt] at this
      simp [keys, this]
    have hnd := h.nd
    obtain ⟨j, hj, hne, he⟩ := List.mem_eraseIdx_iff_getElem.1 hm
    have := (List.getElem_inj (h₀ := hj) (h₁ := by simpa [keys] using hlt) hnd).1 (he.trans hk.symm)
    exact hne this
  · have hh' : has xs who = false := by simpa using hh
    rw [gone_no hh']; exact hh'
theorem Good.put {xs : List (Int × Int)} (h : Good xs) (who r : Int) : Good (putL xs who r) := by
  unfold putL
  split
  · exact h
  · rename_i hb
    split
    · exact h
    · rename_i hh
      exact h.ins (by unfold badA at hb; omega) (by simpa using hh)
theorem Good.change {xs : List (Int × Int)} (h : Good xs) (who r : Int) : Good (chL xs who r) := by
  unfold chL
  split
  · rename_i hh
    split
    · exact h
    · split
      · exact h
      · obtain ⟨y, hy, rfl⟩ := has_yes.1 hh
        exact (h.gone _).ins (h.lo y hy) (h.went _)
  · exact h
theorem gone_len' {xs : List (Int × Int)} {who : Int} (h : has xs who = true) : (gone xs who).length + 1 = xs.length := by
  have := has_lt h
  unfold gone; rw [List.length_eraseIdx, if_pos this]; omega
theorem putL_len (xs : List (Int × Int)) (who r : Int) : (putL xs who r).length ≤ xs.length + 1 := by
  unfold putL
  split
  · omega
  · split
    · omega
    · rw [ins_len]; omega
theorem chL_len (xs : List (Int × Int)) (who r : Int) : (chL xs who r).length ≤ xs.length + 1 := by
  unfold chL
  split
  · split
    · omega
    · split
      · omega
      · rw [ins_len]; have := gone_len xs who; omega
  · omega
/-- what is done: kind, who, rank -/
def doE (xs : List (Int × Int)) (a : Int × Int × Int) : Int := if a.1 % 4 = 2 then remE xs a.2.1 else if a.1 % 4 = 3 then chE xs a.2.1 a.2.2 else putE xs a.2.1 a.2.2
def doX (xs : List (Int × Int)) (a : Int × Int × Int) : List (Int × Int) := if a.1 % 4 = 2 then gone xs a.2.1 else if a.1 % 4 = 3 then chL xs a.2.1 a.2.2 else putL xs a.2.1 a.2.2
theorem Good.does {xs : List (Int × Int)} (h : Good xs) (a : Int × Int × Int) : Good (doX xs a) := by
  unfold doX
  split
  · exact h.gone _
  · split
    · exact h.change _ _
    · exact h.put _ _
theorem doX_len (xs : List (Int × Int)) (a : Int × Int × Int) : (doX xs a).length ≤ xs.length + 1 := by
  unfold doX
  split
  · have := gone_len xs a.2.1; omega
  · split
    · exact chL_len _ _ _
    · exact putL_len _ _ _
theorem keys_len (xs : List (Int × Int)) : (keys xs).length = xs.length := by simp [keys]
theorem keys_at (xs : List (Int × Int)) (i : Nat) (h : i < xs.length) : (keys xs).getD i 0 = (xs.getD i (0, 0)).1 := by
  simp [keys, List.getD_eq_getElem?_getD, h]
end Go.Proofs.YtmdhlgdikchhlaaDoor
