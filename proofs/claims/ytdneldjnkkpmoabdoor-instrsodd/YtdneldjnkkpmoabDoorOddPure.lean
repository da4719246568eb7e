/- With a byte more at its beginning or its end what is written is no instruction, but for a digit that a number may have, and xor: by plain lists. -/
import Derived.Test.YtdneldjnkkpmoabDoorFieldsPure
namespace Go.Proofs.YtdneldjnkkpmoabDoor
open Go Go.RowKit
set_option maxRecDepth 100000
set_option linter.unusedSimpArgs false
set_option linter.unusedVariables false
theorem opOf_nil : opOf [] = none := by decide +kernel
/-- words by their bytes -/
def wl (o : Nat) : List UInt8 := (fWord o).data.toList
theorem pre_word : ∀ o o' : Fin 23, (wl o'.val).tail = wl o.val → o.val = 7 ∧ o'.val = 8 := by decide +kernel
theorem xor_head : (wl 8).head? = some 120 := by decide +kernel
theorem suf_word : ∀ o o' : Fin 23, ksOf o.val = [] → ksOf o'.val = [] → (wl o'.val).dropLast ≠ wl o.val ∨ wl o'.val = [] := by decide +kernel
theorem wl_ne : ∀ o : Fin 23, wl o.val ≠ [] := by decide +kernel
theorem ks78 : ksOf 7 = ksOf 8 := by decide +kernel
theorem opOf_pre (o : Nat) (ho : o < 23) (x : UInt8) : opOf (x :: wl o) = if o = 7 ∧ x = 120 then some 8 else none := by
  split
  · rename_i h
    obtain ⟨rfl, rfl⟩ := h
    have : (120 : UInt8) :: wl 7 = (fWord 8).data.toList := by decide +kernel
    rw [this]
    exact opOf_word 8 (by omega)
  · rename_i h
    cases hc : opOf (x :: wl o) with
    | none => rfl
    | some o' =>
      obtain ⟨h1, h2⟩ := opOf_some hc
      have e := pre_word ⟨o, ho⟩ ⟨o', h1⟩ (by show (fWord o').data.toList.tail = _; rw [h2]; rfl)
      simp only at e
      obtain ⟨rfl, rfl⟩ := e
      have hx := xor_head
      unfold wl at hx
      rw [h2] at hx
      simp at hx
      exact absurd ⟨rfl, hx⟩ h
theorem mk_app (a b : List UInt8) : mk a ++ mk b = mk (a ++ b) := by rw [← data_mk (mk a ++ mk b), ba_append, mk_data, mk_data]
/-- a blank ahead -/
theorem blank_pre (o : Nat) (a b c : Int) (ha : byte a) (hb : byte b) (hc : byte c) (hm : may o a b c = true) : prs (splitP (mk [32] ++ text o a b c)) = none := by
  obtain ⟨h1, h2, h3⟩ := parts_plain o a b c ha hb hc hm
  have e : mk [32] ++ text o a b c = mk (jn ([] :: (parts o a b c).map (·.data.toList))) := by
    rw [text_jn, mk_app, jn_cons _ _ (by intro e; rw [List.map_eq_nil_iff] at e; rw [e] at h2; simp at h2)]
    rfl
  rw [e, splitP_jn _ (by simp) _ (by simp; omega), List.map_cons, prs, mk_data, opOf_nil]
  intro w hw
  rcases List.mem_cons.1 hw with rfl | hw
  · simp
  · exact (h1 w hw).1
/-- a byte ahead, no blank -/
theorem byte_pre (o : Nat) (a b c : Int) (ha : byte a) (hb : byte b) (hc : byte c) (hm : may o a b c = true) (x : UInt8) (hx : x ≠ 32) :
    prs (splitP (mk [x] ++ text o a b c)) = if o = 7 ∧ x = 120 then some (8, [a, b, c]) else none := by
  obtain ⟨h1, h2, h3⟩ := parts_plain o a b c ha hb hc hm
  obtain ⟨ts, ho, e1, e2, ⟨l, e3, e5⟩, e4⟩ := parts_of o a b c ha hb hc hm
  have e : mk [x] ++ text o a b c = mk (jn ((x :: wl o) :: ts.map (·.data.toList))) := by
    rw [text_jn, mk_app, e1, List.map_cons]
    congr 1
    cases ts with
    | nil => rw [List.map_nil, jn_one, jn_one]; rfl
    | cons t ts => rw [List.map_cons, jn_two, jn_two]; rfl
  have hpl : ∀ w ∈ (x :: wl o) :: ts.map (·.data.toList), (32 : UInt8) ∉ w := by
    intro w hw
    rcases List.mem_cons.1 hw with rfl | hw
    · intro hm
      rcases List.mem_cons.1 hm with h | h
      · exact hx h.symm
      · exact (word_plain o ho).1 h
    · obtain ⟨y, hy, rfl⟩ := List.mem_map.1 hw
      exact (e4 y hy).1
  have hk := ks_short o ho
  rw [e, splitP_jn _ (by simp) hpl (by simp; omega), List.map_cons, map_data_mk, prs, mk_data, opOf_pre o ho x]
  by_cases h : o = 7 ∧ x = 120
  · obtain ⟨rfl, rfl⟩ := h
    simp only [and_self, if_true]
    rw [← ks78, if_pos e2.symm, e3, Option.map_some, e5]
  · rw [if_neg h, if_neg h]
/-- the last of two rows' numbers -/
theorem rdAll_end : ∀ (ks : List Nat) (ts : List ByteArray) (t : ByteArray) (acc l : List Int), rdAll ks (ts ++ [t]) acc = some l → ∃ k n, rd k t.data.toList = some n
  | [], [], t, acc, l, h => by simp [rdAll] at h
  | [], x :: ts, t, acc, l, h => by simp [rdAll] at h
  | k :: ks, [], t, acc, l, h => by
    rw [List.nil_append, rdAll] at h
    cases hr : rd k t.data.toList with
    | none => rw [hr] at h; cases h
    | some n => exact ⟨k, n, hr⟩
  | k :: ks, x :: ts, t, acc, l, h => by
    rw [List.cons_append, rdAll] at h
    cases hr : rd k x.data.toList with
    | none => rw [hr] at h; cases h
    | some n => rw [hr] at h; exact rdAll_end ks ts t _ l h
theorem digit_end (k j : Nat) (t : List UInt8) (x : UInt8) (m n : Int) (h1 : rd j t = some m) (h2 : rd k (t ++ [x]) = some n) : 48 ≤ x.toNat ∧ x.toNat ≤ 57 := by
  have e1 := (rd_some h1).1
  have e2 := (rd_some h2).1
  rw [mark_one] at e1 e2
  have hd : ∀ c ∈ Lib.itoa n, (48 ≤ c.toNat ∧ c.toNat ≤ 57) ∨ c.toNat = 45 := itoa_mem n
  obtain ⟨y, r, hy⟩ : ∃ y r, Lib.itoa m = y :: r := List.exists_cons_of_ne_nil (itoa_ne m)
  have tail : ∀ (p : List UInt8), p ++ [x] = Lib.itoa n → p ≠ [] → 48 ≤ x.toNat ∧ x.toNat ≤ 57 := by
    intro p hp hne
    obtain ⟨z, q, rfl⟩ := List.exists_cons_of_ne_nil hne
    exact itoa_tail n z (q ++ [x]) hp.symm x (by simp)
  by_cases hk : k = 1
  · rw [if_pos hk] at e2
    by_cases hj : j = 1
    · rw [if_pos hj] at e1
      rw [e1] at e2
      exact tail (Lib.itoa m) (by simpa using e2) (itoa_ne m)
    · rw [if_neg hj] at e1
      rw [e1, List.nil_append, hy] at e2
      simp only [List.cons_append, List.nil_append, List.cons.injEq] at e2
      have := itoa_mem m y (by rw [hy]; exact List.mem_cons_self ..)
      rw [e2.1] at this
      have h114 : (114 : UInt8).toNat = 114 := rfl
      omega
  · rw [if_neg hk, List.nil_append] at e2
    have hne : t ≠ [] := by
      rw [e1]
      intro h
      exact itoa_ne m (List.append_eq_nil_iff.1 h).2
    exact tail t e2 hne
theorem rdAll_mem : ∀ (ks : List Nat) (ts : List ByteArray) (acc l : List Int), rdAll ks ts acc = some l → ∀ t ∈ ts, ∃ j m, rd j t.data.toList = some m
  | [], [], acc, l, h => by simp
  | [], x :: ts, acc, l, h => by simp [rdAll] at h
  | k :: ks, [], acc, l, h => by simp
  | k :: ks, x :: ts, acc, l, h => by
    rw [rdAll] at h
    cases hr : rd k x.data.toList with
    | none => rw [hr] at h; cases h
    | some n =>
      rw [hr] at h
      intro t ht
      rcases List.mem_cons.1 ht with rfl | ht
      · exact ⟨k, n, hr⟩
      · exact rdAll_mem ks ts _ l h t ht
/-- a byte behind, no blank: if it is read, it is a digit, and the Op is the same -/
theorem byte_suf (o : Nat) (a b c : Int) (ha : byte a) (hb : byte b) (hc : byte c) (hm : may o a b c = true) (x : UInt8) (hx : x ≠ 32) (o' : Nat) (l : List Int) (h : prs (splitP (text o a b c ++ mk [x])) = some (o', l)) :
    o' = o ∧ 48 ≤ x.toNat ∧ x.toNat ≤ 57 := by
  obtain ⟨h1, h2, h3⟩ := parts_plain o a b c ha hb hc hm
  obtain ⟨ts, ho, e1, e2, ⟨l0, e3, e5⟩, e4⟩ := parts_of o a b c ha hb hc hm
  have hk := ks_short o ho
  rcases List.eq_nil_or_concat ts with rfl | ⟨us, t, rfl⟩
  · have e : text o a b c ++ mk [x] = mk (jn [wl o ++ [x]]) := by
      rw [text_jn, mk_app, e1, List.map_singleton, jn_one, jn_one]; rfl
    have hpl : ∀ w ∈ [wl o ++ [x]], (32 : UInt8) ∉ w := by
      intro w hw
      rw [List.mem_singleton.1 hw]
      intro hm
      rcases List.mem_append.1 hm with h | h
      · exact (word_plain o ho).1 h
      · exact hx (List.mem_singleton.1 h).symm
    rw [e, splitP_jn _ (by simp) hpl (by simp), List.map_singleton, prs, mk_data] at h
    cases hw : opOf (wl o ++ [x]) with
    | none => rw [hw] at h; cases h
    | some o2 =>
      rw [hw] at h
      simp only at h
      split at h
      · rename_i hlen
        obtain ⟨q1, q2⟩ := opOf_some hw
        have hks : ksOf o2 = [] := List.eq_nil_of_length_eq_zero (by simpa using hlen)
        have hks0 : ksOf o = [] := List.eq_nil_of_length_eq_zero (by simpa using e2.symm)
        rcases suf_word ⟨o, ho⟩ ⟨o2, q1⟩ hks0 hks with h' | h'
        · exact absurd (by show ((fWord o2).data.toList).dropLast = wl o; rw [q2]; simp) h'
        · exact absurd h' (wl_ne ⟨o2, q1⟩)
      · cases h
  · rw [List.concat_eq_append] at e1 e2 e3 e4
    have e : text o a b c ++ mk [x] = mk (jn ((wl o :: us.map (·.data.toList)) ++ [t.data.toList ++ [x]])) := by
      rw [text_jn, mk_app, e1, List.map_cons, List.map_append, List.map_singleton, ← List.cons_append, jn_snoc _ _ (by simp), jn_snoc _ _ (by simp)]
      rw [List.append_assoc]
      rfl
    have hpl : ∀ w ∈ (wl o :: us.map (·.data.toList)) ++ [t.data.toList ++ [x]], (32 : UInt8) ∉ w := by
      intro w hw
      rcases List.mem_append.1 hw with hw | hw
      · rcases List.mem_cons.1 hw with rfl | hw
        · exact (word_plain o ho).1
        · obtain ⟨y, hy, rfl⟩ := List.mem_map.1 hw
          exact (e4 y (List.mem_append_left _ hy)).1
      · rw [List.mem_singleton.1 hw]
        intro hm
        rcases List.mem_append.1 hm with h | h
        · exact (e4 t (by simp)).1 h
        · exact hx (List.mem_singleton.1 h).symm
    rw [List.length_append, List.length_singleton] at e2
    rw [e, splitP_jn _ (by simp) hpl (by simp; omega), List.map_append, List.map_cons, map_data_mk, List.map_singleton, List.cons_append, prs, mk_data, show opOf (wl o) = some o from opOf_word o ho] at h
    simp only at h
    split at h
    · cases hr : rdAll (ksOf o) (us ++ [mk (t.data.toList ++ [x])]) [] with
      | none => rw [hr] at h; cases h
      | some l1 =>
        rw [hr, Option.map_some] at h
        have ho' := Option.some.inj h
        injection ho' with ho' _
        obtain ⟨k, n, hkn⟩ := rdAll_end _ _ _ _ _ hr
        obtain ⟨j, m, hjm⟩ := rdAll_mem _ _ _ _ e3 t (by simp)
        rw [mk_data] at hkn
        exact ⟨ho'.symm, digit_end k j _ x m n hjm hkn⟩
    · cases h
end Go.Proofs.YtdneldjnkkpmoabDoor
