/- One alarm among others, as plain numbers: how many ticks are left of it, and when it comes. No law of the program itself. -/
import Derived.Test.YtciafjmljmeimaaAPure
namespace Go.Proofs.Ytciafjmljmeimaa
open Go Go.RowKit
set_option maxRecDepth 100000
set_option linter.unusedVariables false
set_option linter.unusedSimpArgs false
/-- so many ticks are left of one; none: it does not run -/
def Five (zs : List Alm) (who L ev : Int) : Prop := (L = 0 ∧ has (two zs) who = false) ∨ (1 ≤ L ∧ (who, L, ev) ∈ zs)
theorem Five.left {zs : List Alm} {who L ev : Int} (h : Five zs who L ev) (hf : Fine zs) : leftA zs who = L := by
  rcases h with ⟨rfl, h⟩ | ⟨_, h⟩
  · exact leftV_no h
  · exact leftV_at (y := (who, L)) hf.good.keys (List.mem_map.2 ⟨_, h, rfl⟩)
theorem has_sub {zs ys : List Alm} {who : Int} (h : has (two zs) who = false) (hs : ∀ y ∈ ys, ∃ z ∈ zs, z.1 = y.1) : has (two ys) who = false := by
  cases hh : has (two ys) who with
  | false => rfl
  | true =>
    obtain ⟨y, hy, e⟩ := has_two.1 hh
    obtain ⟨z, hz, e2⟩ := hs y hy
    rw [has_two.2 ⟨z, hz, e2.trans e⟩] at h
    cases h
theorem Five.off {zs : List Alm} {who L ev x : Int} (h : Five zs who L ev) (hx : x ≠ who) : Five (off zs x) who L ev := by
  rcases h with ⟨rfl, h⟩ | ⟨h1, h⟩
  · exact Or.inl ⟨rfl, has_sub h fun y hy => ⟨y, (List.mem_filter.1 hy).1, rfl⟩⟩
  · exact Or.inr ⟨h1, List.mem_filter.2 ⟨h, decide_eq_true (Ne.symm hx)⟩⟩
theorem Five.start {zs : List Alm} {who L ev x i e : Int} (h : Five zs who L ev) (hx : x ≠ who) : Five (startL zs x i e) who L ev := by
  unfold startL
  split
  · rcases h.off hx with ⟨rfl, hk⟩ | ⟨h1, hk⟩
    · refine Or.inl ⟨rfl, ?_⟩
      cases hh : has (two (Go.Proofs.Ytciafjmljmeimaa.off zs x ++ [(x, i, e)])) who with
      | false => rfl
      | true =>
        obtain ⟨y, hy, e2⟩ := has_two.1 hh
        rcases List.mem_append.1 hy with hy | hy
        · rw [has_two.2 ⟨y, hy, e2⟩] at hk; cases hk
        · obtain rfl : y = (x, i, e) := by simpa using hy
          exact absurd e2 hx
    · exact Or.inr ⟨h1, List.mem_append_left _ hk⟩
  · exact h
theorem ids_eq {zs : List Alm} (h : Ids zs) {a b : Alm} (ha : a ∈ zs) (hb : b ∈ zs) (e : a.1 = b.1) : a = b := by
  unfold Ids at h
  induction zs with
  | nil => simp at ha
  | cons z r ih =>
    rw [List.map_cons, List.nodup_cons] at h
    rcases List.mem_cons.1 ha with ea | ha'
    · rcases List.mem_cons.1 hb with eb | hb'
      · rw [ea, eb]
      · subst ea; exact absurd (List.mem_map.2 ⟨b, hb', e.symm⟩) h.1
    · rcases List.mem_cons.1 hb with eb | hb'
      · subst eb; exact absurd (List.mem_map.2 ⟨a, ha', e⟩) h.1
      · exact ih h.2 ha' hb'
/-- how many ticks are left behind one more -/
def nxL (L ev : Int) : Int := if L = 0 then 0 else if L = 1 then ev else L - 1
theorem mem_stay {zs : List Alm} {z : Alm} : z ∈ stay zs ↔ ∃ y ∈ zs, y.2.1 ≠ 1 ∧ nxt y = z := by
  unfold stay
  simp only [List.mem_map, List.mem_filter, decide_eq_true_eq]
  constructor
  · rintro ⟨y, ⟨h1, h2⟩, h3⟩; exact ⟨y, h1, h2, h3⟩
  · rintro ⟨y, h1, h2, h3⟩; exact ⟨y, ⟨h1, h2⟩, h3⟩
theorem mem_agn {zs : List Alm} {z : Alm} : z ∈ agn (due zs) ↔ ∃ y ∈ zs, y.2.1 = 1 ∧ 0 < y.2.2 ∧ ag y = z := by
  unfold agn due
  simp only [List.mem_map, List.mem_filter, decide_eq_true_eq]
  constructor
  · rintro ⟨y, ⟨⟨h1, h2⟩, h4⟩, h3⟩; exact ⟨y, h1, h2, h4, h3⟩
  · rintro ⟨y, h1, h2, h4, h3⟩; exact ⟨y, ⟨⟨h1, h2⟩, h4⟩, h3⟩
theorem mem_tick {zs : List Alm} {z : Alm} : z ∈ tickL zs ↔ (∃ y ∈ zs, y.2.1 ≠ 1 ∧ nxt y = z) ∨ ∃ y ∈ zs, y.2.1 = 1 ∧ 0 < y.2.2 ∧ ag y = z := by
  unfold tickL
  rw [List.mem_append, mem_stay, mem_agn]
theorem Five.tick {zs : List Alm} {who L ev : Int} (h : Five zs who L ev) (hf : Fine zs) (hev : 0 ≤ ev) : Five (tickL zs) who (nxL L ev) ev := by
  rcases h with ⟨rfl, h⟩ | ⟨h1, h⟩
  · refine Or.inl ⟨by simp [nxL], has_sub h fun y hy => ?_⟩
    rcases mem_tick.1 hy with ⟨z, hz, _, rfl⟩ | ⟨z, hz, _, _, rfl⟩
    · exact ⟨z, hz, rfl⟩
    · exact ⟨z, hz, rfl⟩
  · have h0 : ¬ L = 0 := by omega
    by_cases hL : L = 1
    · subst hL
      by_cases he : 0 < ev
      · exact Or.inr ⟨by simp [nxL]; omega, mem_tick.2 (Or.inr ⟨_, h, rfl, he, by simp [nxL, ag]⟩)⟩
      · have e0 : ev = 0 := by omega
        subst e0
        refine Or.inl ⟨by simp [nxL], ?_⟩
        cases hh : has (two (tickL zs)) who with
        | false => rfl
        | true =>
          obtain ⟨y, hy, e⟩ := has_two.1 hh
          rcases mem_tick.1 hy with ⟨z, hz, hn, rfl⟩ | ⟨z, hz, _, hp, rfl⟩
          · have := ids_eq hf.ids hz h e
            subst this
            simp at hn
          · have := ids_eq hf.ids hz h e
            subst this
            simp at hp
    · exact Or.inr ⟨by simp [nxL, h0, hL]; omega, mem_tick.2 (Or.inl ⟨_, h, hL, by simp [nxL, h0, hL, nxt]⟩)⟩
/-- how often it is told at this tick -/
theorem Five.count {zs : List Alm} {who L ev : Int} (h : Five zs who L ev) (hf : Fine zs) : ((due zs).map Prod.fst).count who = if L = 1 then 1 else 0 := by
  have hn : ((due zs).map Prod.fst).Nodup := hf.ids.filter _
  have hc : ((due zs).map Prod.fst).count who ≤ 1 := List.nodup_iff_count.1 hn who
  have hm : who ∈ (due zs).map Prod.fst ↔ L = 1 := by
    rw [List.mem_map]
    constructor
    · rintro ⟨z, hz, e⟩
      obtain ⟨hz, hd⟩ := List.mem_filter.1 hz
      have hd' : z.2.1 = 1 := by simpa using hd
      rcases h with ⟨_, h⟩ | ⟨_, h⟩
      · rw [has_two.2 ⟨z, hz, e⟩] at h; cases h
      · have := ids_eq hf.ids hz h e
        subst this
        exact hd'
    · rintro rfl
      rcases h with ⟨h, _⟩ | ⟨_, h⟩
      · omega
      · exact ⟨_, List.mem_filter.2 ⟨h, by simp⟩, rfl⟩
  by_cases hL : L = 1
  · rw [if_pos hL]
    have := List.count_pos_iff.2 (hm.2 hL)
    omega
  · rw [if_neg hL]
    exact List.count_eq_zero.2 fun h => hL (hm.1 h)
/-- how many ticks are left behind so many -/
def lfA (f ev j : Int) : Int := if j < f then f - j else if 0 < ev then ev - (j - f) % ev else 0
theorem mod_next {a n : Int} (ha : 0 ≤ a) (hn : 0 < n) : (a + 1) % n = if a % n = n - 1 then 0 else a % n + 1 := by
  have h1 := Int.emod_nonneg a (show n ≠ 0 by omega)
  have h2 := Int.emod_lt_of_pos a hn
  rw [← Int.emod_add_emod]
  split
  · rename_i h
    rw [h, show n - 1 + 1 = n by omega, Int.emod_self]
  · exact Int.emod_eq_of_lt (by omega) (by omega)
theorem lf_next {f ev j : Int} (hj : 0 ≤ j) (hf : 1 ≤ f) (he : 0 ≤ ev) : nxL (lfA f ev j) ev = lfA f ev (j + 1) := by
  unfold lfA nxL
  by_cases h1 : j + 1 < f
  · have h2 : j < f := by omega
    rw [if_pos h2, if_pos h1, if_neg (by omega), if_neg (by omega)]
    omega
  · by_cases h2 : j < f
    · have h3 : f = j + 1 := by omega
      subst h3
      rw [if_pos h2, if_neg (by omega), if_pos (by omega), if_neg (by omega)]
      split
      · simp
      · omega
    · rw [if_neg h2, if_neg h1]
      by_cases h4 : 0 < ev
      · rw [if_pos h4, if_pos h4, show j + 1 - f = (j - f) + 1 by omega, mod_next (by omega) h4]
        have h5 := Int.emod_nonneg (j - f) (show ev ≠ 0 by omega)
        have h6 := Int.emod_lt_of_pos (j - f) h4
        rw [if_neg (by omega)]
        split
        · rename_i h7
          rw [if_pos (by omega)]
          omega
        · rename_i h7
          rw [if_neg (by omega)]
          omega
      · rw [if_neg h4, if_neg h4, if_pos rfl]
theorem lfA_zero {f ev : Int} (hf : 1 ≤ f) : lfA f ev 0 = f := by
  unfold lfA
  rw [if_pos (by omega)]
  omega
/-- whether it comes at the next tick -/
theorem lf_one {f ev j : Int} (hj : 0 ≤ j) (hf : 1 ≤ f) (he : 0 ≤ ev) : lfA f ev j = 1 ↔ j + 1 = f ∨ (0 < ev ∧ f < j + 1 ∧ (j + 1 - f) % ev = 0) := by
  unfold lfA
  by_cases h2 : j < f
  · rw [if_pos h2]
    constructor
    · intro h; exact Or.inl (by omega)
    · rintro (h | ⟨_, h, _⟩) <;> omega
  · rw [if_neg h2]
    by_cases h4 : 0 < ev
    · rw [if_pos h4, show j + 1 - f = (j - f) + 1 by omega, mod_next (by omega) h4]
      have h5 := Int.emod_nonneg (j - f) (show ev ≠ 0 by omega)
      have h6 := Int.emod_lt_of_pos (j - f) h4
      constructor
      · intro h
        exact Or.inr ⟨h4, by omega, by rw [if_pos (by omega)]⟩
      · rintro (h | ⟨_, _, h⟩)
        · omega
        · split at h <;> omega
    · rw [if_neg h4]
      constructor
      · intro h; cases h
      · rintro (h | ⟨h, _⟩) <;> omega
end Go.Proofs.Ytciafjmljmeimaa
