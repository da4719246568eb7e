/- Those who were put one after the other, as plain lists: they stand by their ranks, of one rank as they came. -/
import Derived.Test.YtmdhlgdikchhlaaSeen
namespace Go.Proofs.Ytmdhlgdikchhlaa
open Go Go.RowKit
set_option maxRecDepth 100000
set_option linter.unusedVariables false
set_option linter.unusedSimpArgs false
/-- ahead of: a greater rank, or the same one and an earlier number -/
def Rl (a b : Int × Int) : Prop := b.2 < a.2 ∨ (a.2 = b.2 ∧ a.1 < b.1)
def Fl (xs : List (Int × Int)) : Prop := xs.Pairwise Rl
theorem Fl.at {xs : List (Int × Int)} (h : Fl xs) {i j : Nat} (hij : i < j) (hj : j < xs.length) : Rl (xs.getD i (0, 0)) (xs.getD j (0, 0)) := by
  rw [getD_at (by omega), getD_at hj]
  exact List.pairwise_iff_getElem.1 h i j (by omega) hj hij
theorem Fl.below {xs : List (Int × Int)} (h : Fl xs) {r : Int} {i : Nat} (hi : ri xs r ≤ i) (hl : i < xs.length) : (xs.getD i (0, 0)).2 < r := by
  have h0 := ri_at (xs := xs) (r := r) (by omega)
  rcases Nat.lt_or_ge (ri xs r) i with c | c
  · have := h.at c hl
    unfold Rl at this
    omega
  · obtain rfl : i = ri xs r := by omega
    exact h0
theorem Fl.ins {xs : List (Int × Int)} (h : Fl xs) {z : Int × Int} (hz : ∀ y ∈ xs, y.1 < z.1) : Fl (ins xs z) := by
  have hk := ri_le xs z.2
  unfold Fl
  rw [ins_split, List.pairwise_append, List.pairwise_cons]
  have hs : (xs.take (ri xs z.2) ++ xs.drop (ri xs z.2)).Pairwise Rl := by rw [List.take_append_drop]; exact h
  rw [List.pairwise_append] at hs
  have hd : ∀ y ∈ xs.drop (ri xs z.2), y.2 < z.2 := by
    intro y hy
    obtain ⟨i, hi, rfl⟩ := List.getElem_of_mem hy
    have hi' : ri xs z.2 + i < xs.length := by simp at hi; omega
    have := h.below (r := z.2) (i := ri xs z.2 + i) (by omega) hi'
    rw [getD_at hi'] at this
    simpa using this
  have ht : ∀ y ∈ xs.take (ri xs z.2), Rl y z := by
    intro y hy
    obtain ⟨i, hi, rfl⟩ := List.getElem_of_mem hy
    have hi' : i < ri xs z.2 := by simp at hi; omega
    have h1 := ri_no (xs := xs) (r := z.2) hi'
    have h2 := hz _ (getD_mem (i := i) (by omega : i < xs.length))
    rw [getD_at (by omega)] at h1 h2
    simp only [List.getElem_take]
    unfold Rl
    omega
  refine ⟨hs.1, ⟨fun y hy => Or.inl (hd y hy), hs.2.1⟩, fun a ha b hb => ?_⟩
  rcases List.mem_cons.1 hb with rfl | hb
  · exact ht a ha
  · exact hs.2.2 a ha b hb
theorem Fl.gone {xs : List (Int × Int)} (h : Fl xs) (who : Int) : Fl (gone xs who) := List.Pairwise.sublist (List.eraseIdx_sublist _ _) h
/-- the rank of a number -/
def rk (L : List Int) (j : Nat) : Int := L.getD j 0 % 32
theorem rk_in (L : List Int) (j : Nat) : 0 ≤ rk L j ∧ rk L j ≤ 31 := by unfold rk; omega
/-- so many were put -/
structure FQ (L : List Int) (i : Nat) (xs : List (Int × Int)) : Prop where
  len : xs.length = i
  fl : Fl xs
  mem : ∀ y ∈ xs, ∃ j : Nat, j < i ∧ y = ((j : Int), rk L j)
  all : ∀ j, j < i → ((j : Int), rk L j) ∈ xs
  good : Good xs
theorem FQ.nil (L : List Int) : FQ L 0 [] := ⟨rfl, List.Pairwise.nil, fun y h => by simp at h, fun j h => by omega, Good.nil⟩
theorem FQ.next {L : List Int} {i : Nat} {xs : List (Int × Int)} (h : FQ L i xs) : putE xs i (rk L i) = 0 ∧ FQ L (i + 1) (putL xs i (rk L i)) := by
  have hr := rk_in L i
  have hb : ¬ badA (i : Int) (rk L i) := by unfold badA; omega
  have hh : has xs (i : Int) = false := has_no.2 fun y hy e => by
    obtain ⟨j, hj, rfl⟩ := h.mem y hy
    simp only at e
    omega
  have e : putL xs i (rk L i) = ins xs (i, rk L i) := by simp [putL, hb, hh]
  refine ⟨by simp [putE, hb, hh], ?_⟩
  rw [e]
  have hp := ins_perm xs ((i : Int), rk L i)
  refine ⟨by rw [ins_len, h.len], h.fl.ins fun y hy => ?_, fun y hy => ?_, fun j hj => ?_, h.good.ins (by omega) hh⟩
  · obtain ⟨j, hj, rfl⟩ := h.mem y hy
    simp only
    omega
  · rcases List.mem_cons.1 (hp.mem_iff.1 hy) with rfl | hy
    · exact ⟨i, by omega, rfl⟩
    · obtain ⟨j, hj, e⟩ := h.mem y hy
      exact ⟨j, by omega, e⟩
  · refine hp.mem_iff.2 (List.mem_cons.2 ?_)
    rcases Nat.lt_or_ge j i with c | c
    · exact Or.inr (h.all j c)
    · obtain rfl : j = i := by omega
      exact Or.inl rfl
theorem FQ.at {L : List Int} {i : Nat} {xs : List (Int × Int)} (h : FQ L i xs) {k : Nat} (hk : k < i) : ∃ j : Nat, j < i ∧ xs.getD k (0, 0) = ((j : Int), rk L j) := h.mem _ (getD_mem (by rw [h.len]; exact hk))
theorem FQ.there {L : List Int} {i : Nat} {xs : List (Int × Int)} (h : FQ L i xs) {k : Nat} (hk : k < i) : has xs (k : Int) = true := has_yes.2 ⟨_, h.all k hk, rfl⟩
theorem erase_at (xs : List (Int × Int)) (j i : Nat) : (xs.eraseIdx j).getD i (0, 0) = if i < j then xs.getD i (0, 0) else xs.getD (i + 1) (0, 0) := by
  rw [List.getD_eq_getElem?_getD, List.getElem?_eraseIdx]
  split <;> rw [List.getD_eq_getElem?_getD]
theorem insert_at {xs : List (Int × Int)} {j : Nat} (hj : j ≤ xs.length) (z : Int × Int) (i : Nat) : (xs.insertIdx j z).getD i (0, 0) = if i < j then xs.getD i (0, 0) else if i = j then z else xs.getD (i - 1) (0, 0) := by
  rw [List.getD_eq_getElem?_getD]
  rcases Nat.lt_trichotomy i j with c | rfl | c
  · rw [List.getElem?_insertIdx_of_lt c, if_pos c, List.getD_eq_getElem?_getD]
  · rw [List.getElem?_insertIdx_self, if_pos hj, if_neg (by omega), if_pos rfl]; rfl
  · rw [List.getElem?_insertIdx_of_gt c, if_neg (by omega), if_neg (by omega), List.getD_eq_getElem?_getD]
/-- somebody is removed: their place, and where all others stand then -/
theorem FQ.less {L : List Int} {n : Nat} {xs : List (Int × Int)} (h : FQ L n xs) {k : Nat} (hk : k < n) :
    remE xs (k : Int) = 0 ∧ (gone xs (k : Int)).length + 1 = n ∧ wi xs (k : Int) < n ∧ (keys xs).getD (wi xs (k : Int)) 0 = k ∧
      (∀ i, i < n → i ≠ wi xs (k : Int) → (keys xs).getD i 0 ≠ k) ∧ (∀ i, i < wi xs (k : Int) → (keys (gone xs (k : Int))).getD i 0 = (keys xs).getD i 0) ∧
      (∀ i, wi xs (k : Int) < i → i < n → (keys (gone xs (k : Int))).getD (i - 1) 0 = (keys xs).getD i 0) := by
  have hh := h.there hk
  have hw := has_lt hh
  have hgl := gone_len' hh
  have hl := h.len
  refine ⟨by simp [remE, hh], by omega, by omega, ?_, fun i hi hne e => ?_, fun i hi => ?_, fun i hi hin => ?_⟩
  · rw [keys_at _ _ hw, wi_at hw]
  · have hw' := wi_at hw
    rw [keys_at _ _ (by omega), getD_at (by omega)] at e
    rw [getD_at hw] at hw'
    have hi2 : i < (keys xs).length := by rw [keys_len]; omega
    have hw2 : wi xs (k : Int) < (keys xs).length := by rw [keys_len]; exact hw
    refine hne ((List.getElem_inj (h₀ := hi2) (h₁ := hw2) h.good.nd).1 ?_)
    simp [keys, e, hw']
  · rw [keys_at _ _ (by omega), keys_at _ _ (by omega)]
    unfold Go.Proofs.Ytmdhlgdikchhlaa.gone
    rw [erase_at, if_pos hi]
  · rw [keys_at _ _ (by omega), keys_at _ _ (by omega)]
    unfold Go.Proofs.Ytmdhlgdikchhlaa.gone
    rw [erase_at, if_neg (by omega), show i - 1 + 1 = i by omega]
/-- .. and put again -/
theorem FQ.back {L : List Int} {n : Nat} {xs : List (Int × Int)} (h : FQ L n xs) {k : Nat} (hk : k < n) :
    putE (gone xs (k : Int)) k (rk L k) = 0 ∧ (putL (gone xs (k : Int)) k (rk L k)).length = n ∧ ∃ j2, j2 < n ∧ ∀ i, i < n → ∃ y : Nat, y < n ∧ (keys (putL (gone xs (k : Int)) k (rk L k))).getD i 0 = (y : Int) ∧
      (i < j2 → y ≠ k) ∧ (i = j2 → y = k) ∧ (j2 < i → rk L y < rk L k) := by
  have hh := h.there hk
  have hgl := gone_len' hh
  have hl := h.len
  have hr := rk_in L k
  have hb : ¬ badA (k : Int) (rk L k) := by unfold badA; omega
  have hn := h.good.went (k : Int)
  have e : putL (Go.Proofs.Ytmdhlgdikchhlaa.gone xs (k : Int)) k (rk L k) = ins (Go.Proofs.Ytmdhlgdikchhlaa.gone xs (k : Int)) (k, rk L k) := by simp [putL, hb, hn]
  have hfl := h.fl.gone (k : Int)
  rw [e]
  have hle := ri_le (Go.Proofs.Ytmdhlgdikchhlaa.gone xs (k : Int)) (rk L k)
  have hm : ∀ i, i < (Go.Proofs.Ytmdhlgdikchhlaa.gone xs (k : Int)).length → ∃ y : Nat, y < n ∧ y ≠ k ∧ (Go.Proofs.Ytmdhlgdikchhlaa.gone xs (k : Int)).getD i (0, 0) = ((y : Int), rk L y) := fun i hi => by
    have h1 := getD_mem hi
    obtain ⟨y, hy, e⟩ := h.mem _ (gone_mem h1)
    refine ⟨y, hy, ?_, e⟩
    rintro rfl
    exact has_no.1 hn _ h1 (by rw [e])
  have hlen : (ins (Go.Proofs.Ytmdhlgdikchhlaa.gone xs (k : Int)) ((k : Int), rk L k)).length = n := by rw [ins_len]; omega
  refine ⟨by simp [putE, hb, hn], hlen, ri (Go.Proofs.Ytmdhlgdikchhlaa.gone xs (k : Int)) (rk L k), by omega, fun i hi => ?_⟩
  rw [keys_at _ _ (by omega)]
  unfold ins
  rw [insert_at hle]
  rcases Nat.lt_trichotomy i (ri (Go.Proofs.Ytmdhlgdikchhlaa.gone xs (k : Int)) (rk L k)) with c | c | c
  · obtain ⟨y, hy, hne, e⟩ := hm i (by omega)
    rw [if_pos c, e]
    exact ⟨y, hy, rfl, fun _ => hne, fun h => by omega, fun h => by omega⟩
  · rw [if_neg (by omega), if_pos c]
    exact ⟨k, hk, rfl, fun h => by omega, fun _ => rfl, fun h => by omega⟩
  · obtain ⟨y, hy, hne, e⟩ := hm (i - 1) (by omega)
    have hb := hfl.below (r := rk L k) (i := i - 1) (by omega) (by omega)
    rw [if_neg (by omega), if_neg (by omega), e]
    rw [e] at hb
    exact ⟨y, hy, rfl, fun h => by omega, fun h => by omega, fun _ => hb⟩
end Go.Proofs.Ytmdhlgdikchhlaa
