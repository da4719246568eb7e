/- A text with a field less, or a field more, is read as nothing; where the last blank is: by plain lists. -/
import Derived.Test.YtdneldjnkkpmoaaDoorTheory
namespace Go.Proofs.YtdneldjnkkpmoaaDoor
open Go Go.RowKit
set_option maxRecDepth 100000
set_option linter.unusedSimpArgs false
set_option linter.unusedVariables false
/-- where the last blank is, of the first so many -/
def la (l : List UInt8) : Nat → Int
  | 0 => -1
  | i + 1 => if l[i]? = some 32 then i else la l i
theorem la_bd (l : List UInt8) : ∀ i, -1 ≤ la l i ∧ la l i < i
  | 0 => by simp [la]
  | i + 1 => by
    have := la_bd l i
    rw [la]; split <;> omega
theorem la_none (l : List UInt8) (h : (32 : UInt8) ∉ l) : ∀ i, la l i = -1
  | 0 => rfl
  | i + 1 => by
    rw [la, if_neg (fun e => h (List.mem_of_getElem? e))]
    exact la_none l h i
theorem la_last (a b : List UInt8) (h : (32 : UInt8) ∉ b) : ∀ k, k ≤ b.length → la (a ++ 32 :: b) (a.length + 1 + k) = a.length
  | 0, _ => by
    rw [show a.length + 1 + 0 = a.length + 1 by omega, la, if_pos (by simp)]
  | k + 1, hk => by
    rw [show a.length + 1 + (k + 1) = (a.length + 1 + k) + 1 by omega, la, if_neg]
    · exact la_last a b h k (by omega)
    · intro e
      rw [List.getElem?_append_right (by omega), show a.length + 1 + k - a.length = k + 1 by omega, List.getElem?_cons_succ] at e
      exact h (List.mem_of_getElem? e)
theorem jn_snoc : ∀ (ws : List (List UInt8)) (x : List UInt8), ws ≠ [] → jn (ws ++ [x]) = jn ws ++ 32 :: x
  | [], _, h => absurd rfl h
  | [w], x, _ => by rw [List.singleton_append, jn_two, jn_one, jn_one]
  | w :: y :: ws, x, _ => by
    have := jn_snoc (y :: ws) x (by simp)
    rw [List.cons_append, List.cons_append, jn_two, jn_two]
    rw [List.cons_append] at this
    rw [this]
    simp
theorem prs_len (w : ByteArray) (ts : List ByteArray) (o : Nat) (ho : opOf w.data.toList = some o) (h : ts.length ≠ (ksOf o).length) : prs (w :: ts) = none := by
  rw [prs, ho]
  simp only
  rw [if_neg (Ne.symm h)]
theorem rd_nil (k : Nat) : rd k [] = none := by
  cases h : rd k [] with
  | none => rfl
  | some n =>
    have := (rd_some h).1
    have hne := itoa_ne n
    simp at this
    exact absurd this.2 hne
theorem rdAll_last : ∀ (ks : List Nat) (ts : List ByteArray) (t : ByteArray) (acc : List Int), ts.length + 1 = ks.length → t.data.toList = [] → rdAll ks (ts ++ [t]) acc = none
  | [], ts, t, acc, h, _ => by simp at h
  | [k], [], t, acc, _, ht => by
    rw [List.nil_append, rdAll, ht, rd_nil]
  | [k], x :: ts, t, acc, h, _ => by simp at h
  | k :: j :: ks, [], t, acc, h, _ => by simp at h
  | k :: j :: ks, x :: ts, t, acc, h, ht => by
    rw [List.cons_append, rdAll]
    cases rd k x.data.toList with
    | none => rfl
    | some n => exact rdAll_last (j :: ks) ts t _ (by simpa using h) ht
/-- the parts as lists of bytes, and what is read of them -/
theorem more_none (o : Nat) (a b c : Int) (ha : byte a) (hb : byte b) (hc : byte c) (hm : may o a b c = true) (x : List UInt8) (hx : (32 : UInt8) ∉ x) : prs (splitP (text o a b c ++ mk (32 :: x))) = none := by
  obtain ⟨h1, h2, h3⟩ := parts_plain o a b c ha hb hc hm
  obtain ⟨ts, ho, e1, e2, _, e4⟩ := parts_of o a b c ha hb hc hm
  have e : text o a b c ++ mk (32 :: x) = mk (jn ((parts o a b c).map (·.data.toList) ++ [x])) := by
    rw [jn_snoc _ _ (by rw [e1]; simp), text_jn]
    rw [← data_mk (mk _ ++ mk _), ba_append, mk_data, mk_data]
  rw [e, splitP_jn _ (by simp) _ (by rw [List.length_append, List.length_map]; simp; omega), List.map_append, map_data_mk, e1]
  · exact prs_len _ _ o (opOf_word o ho) (by simp; omega)
  · intro w hw
    rcases List.mem_append.1 hw with hw | hw
    · exact (h1 w hw).1
    · rw [List.mem_singleton.1 hw]; exact hx
/-- what stands ahead of the last blank, if there is one -/
theorem cut_last (o : Nat) (a b c : Int) (ha : byte a) (hb : byte b) (hc : byte c) (hm : may o a b c = true) :
    ((32 : UInt8) ∉ (text o a b c).data.toList) ∨ ∃ p q, (text o a b c).data.toList = p ++ 32 :: q ∧ (32 : UInt8) ∉ q ∧ prs (splitP (mk p)) = none ∧ prs (splitP (mk (p ++ [32]))) = none := by
  obtain ⟨h1, h2, h3⟩ := parts_plain o a b c ha hb hc hm
  obtain ⟨ts, ho, e1, e2, _, e4⟩ := parts_of o a b c ha hb hc hm
  rw [text_jn, mk_data]
  rcases List.eq_nil_or_concat ts with rfl | ⟨us, t, rfl⟩
  · left
    rw [e1, List.map_singleton, jn_one]
    exact (word_plain o ho).1
  · right
    rw [List.concat_eq_append] at e1 e2 e4
    have hpl : ∀ w ∈ (fWord o :: us).map (·.data.toList), (32 : UInt8) ∉ w := by
      intro w hw
      rw [List.map_cons] at hw
      rcases List.mem_cons.1 hw with rfl | hw
      · exact (word_plain o ho).1
      · obtain ⟨y, hy, rfl⟩ := List.mem_map.1 hw
        exact (e4 y (List.mem_append_left _ hy)).1
    have hk := ks_short o ho
    rw [List.length_append, List.length_singleton] at e2
    refine ⟨jn ((fWord o :: us).map (·.data.toList)), t.data.toList, ?_, (e4 t (by simp)).1, ?_, ?_⟩
    · rw [e1, ← List.cons_append, List.map_append, List.map_singleton, jn_snoc _ _ (by simp)]
    · rw [splitP_jn _ (by simp) hpl (by simp; omega), map_data_mk]
      exact prs_len _ _ o (opOf_word o ho) (by omega)
    · have : jn ((fWord o :: us).map (·.data.toList)) ++ [32] = jn ((fWord o :: us).map (·.data.toList) ++ [[]]) := by rw [jn_snoc _ _ (by simp)]
      rw [this, splitP_jn _ (by simp) _ (by simp; omega), List.map_append, map_data_mk, List.cons_append, prs, opOf_word o ho]
      · simp only
        rw [if_pos (by simp; omega)]
        have := rdAll_last (ksOf o) us (mk []) [] (by omega) rfl
        rw [show List.map mk [[]] = [mk []] from rfl, this]
        rfl
      · intro w hw
        rcases List.mem_append.1 hw with hw | hw
        · exact hpl w hw
        · rw [List.mem_singleton.1 hw]; simp
end Go.Proofs.YtdneldjnkkpmoaaDoor
