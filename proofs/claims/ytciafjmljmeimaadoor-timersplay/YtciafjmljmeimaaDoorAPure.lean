/- Alarms as plain lists of (who, how many ticks are left, in how many again). No law of the program itself. -/
import Derived.Test.YtciafjmljmeimaaDoorDTop
namespace Go.Proofs.YtciafjmljmeimaaDoor
open Go Go.RowKit
set_option maxRecDepth 100000
set_option linter.unusedVariables false
set_option linter.unusedSimpArgs false
abbrev Alm := Int × Int × Int
/-- who, and when -/
def wl (z : Alm) : Int × Int := (z.1, z.2.1)
/-- who, and how often -/
def we (z : Alm) : Int × Int := (z.1, z.2.2)
def two (zs : List Alm) : List (Int × Int) := zs.map wl
def pr (zs : List Alm) : List (Int × Int) := zs.map we
def off (zs : List Alm) (who : Int) : List Alm := zs.filter (fun z => decide (z.1 ≠ who))
def due (zs : List Alm) : List Alm := zs.filter (fun z => decide (z.2.1 = 1))
def nxt (z : Alm) : Alm := (z.1, z.2.1 - 1, z.2.2)
def ag (z : Alm) : Alm := (z.1, z.2.2, z.2.2)
def stay (zs : List Alm) : List Alm := (zs.filter (fun z => decide (z.2.1 ≠ 1))).map nxt
def agn (ds : List Alm) : List Alm := (ds.filter (fun z => decide (0 < z.2.2))).map ag
def tickL (zs : List Alm) : List Alm := stay zs ++ agn (due zs)
def badT (i e : Int) : Prop := i < 1 ∨ 1073741824 < i ∨ e < 0 ∨ 1073741824 < e
instance (i e : Int) : Decidable (badT i e) := inferInstanceAs (Decidable (i < 1 ∨ 1073741824 < i ∨ e < 0 ∨ 1073741824 < e))
def startE (who i e : Int) : Int := if who < 0 then 1 else if badT i e then 4 else 0
def startL (zs : List Alm) (who i e : Int) : List Alm := if startE who i e = 0 then off zs who ++ [(who, i, e)] else zs
def stopE (zs : List Alm) (who : Int) : Int := if has (two zs) who then 0 else 7
def leftA (zs : List Alm) (who : Int) : Int := leftV (two zs) who
theorem two_len (zs : List Alm) : (two zs).length = zs.length := by simp [two]
theorem two_app (xs ys : List Alm) : two (xs ++ ys) = two xs ++ two ys := by simp [two]
theorem pr_app (xs ys : List Alm) : pr (xs ++ ys) = pr xs ++ pr ys := by simp [pr]
theorem two_off (zs : List Alm) (who : Int) : two (off zs who) = gone (two zs) who := by
  unfold two off gone
  rw [List.filter_map]
  rfl
theorem two_rest (zs : List Alm) : two (stay zs) = rest (two zs) := by
  unfold two stay rest
  rw [List.filter_map, List.map_map, List.map_map]
  rfl
theorem two_woke (zs : List Alm) : woke (two zs) = (due zs).map Prod.fst := by
  unfold two due woke
  rw [List.filter_map, List.map_map]
  rfl
theorem has_two {zs : List Alm} {who : Int} : has (two zs) who = true ↔ ∃ z ∈ zs, z.1 = who := by
  rw [has_yes]
  constructor
  · rintro ⟨y, hy, e⟩
    obtain ⟨z, hz, rfl⟩ := List.mem_map.1 hy
    exact ⟨z, hz, e⟩
  · rintro ⟨z, hz, e⟩
    exact ⟨_, List.mem_map.2 ⟨z, hz, rfl⟩, e⟩
theorem off_not {zs : List Alm} {who : Int} (h : has (two zs) who = false) : off zs who = zs := by
  unfold off
  rw [List.filter_eq_self]
  intro z hz
  have : ¬ z.1 = who := fun e => by
    have := has_two.2 ⟨z, hz, e⟩
    rw [h] at this
    cases this
  simpa using this
theorem has_off (zs : List Alm) (who : Int) : has (two (off zs who)) who = false := by
  cases h : has (two (off zs who)) who with
  | false => rfl
  | true =>
    obtain ⟨z, hz, e⟩ := has_two.1 h
    have := (List.mem_filter.1 hz).2
    simp at this
    exact absurd e this
theorem off_len (zs : List Alm) (who : Int) : (off zs who).length ≤ zs.length := List.length_filter_le _ _
def Ids (zs : List Alm) : Prop := (zs.map Prod.fst).Nodup
theorem Ids.keys {zs : List Alm} : Keys (two zs) ↔ Ids zs := by
  unfold Keys Ids two
  rw [List.map_map]
  exact Iff.rfl
structure Fine (zs : List Alm) : Prop where
  good : Good (two zs)
  each : ∀ z ∈ zs, 0 ≤ z.2.2 ∧ z.2.2 ≤ 1073741824
  top : ∀ z ∈ zs, z.1 < 9223372036854775808
theorem Fine.nil : Fine [] := ⟨Good.nil, by simp, by simp⟩
theorem Fine.ids {zs : List Alm} (h : Fine zs) : Ids zs := Ids.keys.1 h.good.keys
theorem Fine.lo {zs : List Alm} (h : Fine zs) {z : Alm} (hz : z ∈ zs) : 1 ≤ z.2.1 := h.good.lo _ (List.mem_map.2 ⟨z, hz, rfl⟩)
theorem Fine.hi {zs : List Alm} (h : Fine zs) {z : Alm} (hz : z ∈ zs) : z.2.1 ≤ 1073741824 := h.good.hi _ (List.mem_map.2 ⟨z, hz, rfl⟩)
theorem Fine.who {zs : List Alm} (h : Fine zs) {z : Alm} (hz : z ∈ zs) : 0 ≤ z.1 := h.good.who _ (List.mem_map.2 ⟨z, hz, rfl⟩)
theorem Fine.of {zs : List Alm} (hi : Ids zs) (h : ∀ z ∈ zs, 0 ≤ z.1 ∧ z.1 < 9223372036854775808 ∧ 1 ≤ z.2.1 ∧ z.2.1 ≤ 1073741824 ∧ 0 ≤ z.2.2 ∧ z.2.2 ≤ 1073741824) : Fine zs := by
  refine ⟨⟨Ids.keys.2 hi, ?_, ?_, ?_⟩, fun z hz => ⟨(h z hz).2.2.2.2.1, (h z hz).2.2.2.2.2⟩, fun z hz => (h z hz).2.1⟩
  all_goals
    intro y hy
    obtain ⟨z, hz, rfl⟩ := List.mem_map.1 hy
    have := h z hz
    simp only [wl]
    omega
theorem Fine.all {zs : List Alm} (h : Fine zs) {z : Alm} (hz : z ∈ zs) : 0 ≤ z.1 ∧ z.1 < 9223372036854775808 ∧ 1 ≤ z.2.1 ∧ z.2.1 ≤ 1073741824 ∧ 0 ≤ z.2.2 ∧ z.2.2 ≤ 1073741824 :=
  ⟨h.who hz, h.top z hz, h.lo hz, h.hi hz, h.each z hz⟩
theorem Ids.filter {zs : List Alm} (h : Ids zs) (p : Alm → Bool) : Ids (zs.filter p) := by
  unfold Ids at h ⊢
  exact h.sublist (List.Sublist.map _ List.filter_sublist)
theorem Fine.filter {zs : List Alm} (h : Fine zs) (p : Alm → Bool) : Fine (zs.filter p) := Fine.of (h.ids.filter p) fun z hz => h.all (List.mem_filter.1 hz).1
theorem Fine.off {zs : List Alm} (h : Fine zs) (who : Int) : Fine (off zs who) := h.filter _
theorem Fine.start {zs : List Alm} (h : Fine zs) {who i e : Int} (hb : who < 9223372036854775808) : Fine (startL zs who i e) := by
  unfold startL
  split
  · rename_i hs
    have h0 : ¬ who < 0 := fun c => by simp [startE, c] at hs
    have h1 : ¬ badT i e := fun c => by simp [startE, h0, c] at hs
    have ho := h.off who
    refine Fine.of ?_ fun z hz => ?_
    · unfold Ids
      rw [List.map_append, List.nodup_append]
      refine ⟨ho.ids, by simp, fun a ha b hb' => ?_⟩
      obtain ⟨z, hz, rfl⟩ := List.mem_map.1 ha
      have : b = who := by simpa using hb'
      subst this
      have := (List.mem_filter.1 hz).2
      simpa using this
    · rcases List.mem_append.1 hz with hz | hz
      · exact ho.all hz
      · obtain rfl : z = (who, i, e) := by simpa using hz
        unfold badT at h1
        simp only
        omega
  · exact h
theorem start_len (zs : List Alm) (who i e : Int) : (startL zs who i e).length ≤ zs.length + 1 := by
  unfold startL
  split
  · have := off_len zs who
    simp
    omega
  · omega
/-- what has become of all, when the first so many that come are done with -/
def mid (zs : List Alm) (i : Nat) : List Alm := stay zs ++ agn ((due zs).take i)
theorem mid_zero (zs : List Alm) : mid zs 0 = stay zs := by simp [mid, agn]
theorem mid_all (zs : List Alm) : mid zs (due zs).length = tickL zs := by simp [mid, tickL]
theorem mid_succ (zs : List Alm) (i : Nat) (q : Alm) (h : (due zs)[i]? = some q) : mid zs (i + 1) = mid zs i ++ (if 0 < q.2.2 then [ag q] else []) := by
  obtain ⟨hi, e⟩ := List.getElem?_eq_some_iff.1 h
  unfold mid agn
  rw [← List.take_append_getElem hi, List.filter_append, List.map_append, List.append_assoc, e]
  by_cases c : 0 < q.2.2 <;> simp [c]
theorem pr_next (zs : List Alm) : pr (zs.map nxt) = pr zs := by unfold pr; rw [List.map_map]; rfl
theorem pr_ag (zs : List Alm) : pr (zs.map ag) = pr zs := by unfold pr; rw [List.map_map]; rfl
theorem ids_next (zs : List Alm) : (zs.map nxt).map Prod.fst = zs.map Prod.fst := by rw [List.map_map]; rfl
theorem ids_ag (zs : List Alm) : (zs.map ag).map Prod.fst = zs.map Prod.fst := by rw [List.map_map]; rfl
theorem parts_perm (zs : List Alm) : (zs.filter (fun z => decide (z.2.1 ≠ 1)) ++ due zs).Perm zs := by
  have := List.filter_append_perm (fun z : Alm => decide (z.2.1 ≠ 1)) zs
  have e : zs.filter (fun z => !decide (z.2.1 ≠ 1)) = due zs := by
    unfold due
    congr 1
    funext z
    simp
  rw [e] at this
  exact this
/-- all that stay, all that came again, and all that are still to be done with -/
theorem mid_ids {zs : List Alm} (h : Ids zs) (i : Nat) : Ids (mid zs i ++ (due zs).drop i) := by
  have h1 : Ids (zs.filter (fun z => decide (z.2.1 ≠ 1)) ++ due zs) := (((parts_perm zs).map Prod.fst).nodup_iff).2 h
  unfold Ids at h1 ⊢
  unfold mid stay agn
  rw [List.map_append, List.map_append, ids_next, ids_ag]
  rw [List.map_append] at h1
  refine h1.sublist ?_
  rw [List.append_assoc]
  refine List.Sublist.append (List.Sublist.refl _) ?_
  conv => rhs; rw [← List.take_append_drop i (due zs), List.map_append]
  exact List.Sublist.append (List.Sublist.map _ List.filter_sublist) (List.Sublist.refl _)
theorem mid_mem {zs : List Alm} (h : Fine zs) {i : Nat} {z : Alm} (hz : z ∈ mid zs i) : 0 ≤ z.1 ∧ z.1 < 9223372036854775808 ∧ 1 ≤ z.2.1 ∧ z.2.1 ≤ 1073741824 ∧ 0 ≤ z.2.2 ∧ z.2.2 ≤ 1073741824 := by
  unfold mid stay agn at hz
  rcases List.mem_append.1 hz with hz | hz
  · obtain ⟨y, hy, rfl⟩ := List.mem_map.1 hz
    obtain ⟨hy, hn⟩ := List.mem_filter.1 hy
    have := h.all hy
    have hn' : ¬ y.2.1 = 1 := by simpa using hn
    simp only [nxt]
    omega
  · obtain ⟨y, hy, rfl⟩ := List.mem_map.1 hz
    obtain ⟨hy, hn⟩ := List.mem_filter.1 hy
    have := h.all (List.mem_filter.1 (List.mem_of_mem_take hy)).1
    have hn' : 0 < y.2.2 := by simpa using hn
    simp only [ag]
    omega
theorem Fine.mid {zs : List Alm} (h : Fine zs) (i : Nat) : Fine (mid zs i) := by
  refine Fine.of ?_ fun z hz => mid_mem h hz
  have := mid_ids h.ids i
  unfold Ids at this ⊢
  rw [List.map_append] at this
  exact (List.nodup_append.1 this).1
theorem Fine.tick {zs : List Alm} (h : Fine zs) : Fine (tickL zs) := by rw [← mid_all]; exact h.mid _
theorem mid_not {zs : List Alm} (h : Ids zs) {i : Nat} {q : Alm} (hq : (due zs)[i]? = some q) : has (two (mid zs i)) q.1 = false := by
  cases hh : has (two (mid zs i)) q.1 with
  | false => rfl
  | true =>
    obtain ⟨z, hz, e⟩ := has_two.1 hh
    have := mid_ids h i
    unfold Ids at this
    rw [List.map_append, List.nodup_append] at this
    obtain ⟨hi, e2⟩ := List.getElem?_eq_some_iff.1 hq
    have hd : q ∈ (due zs).drop i := by
      rw [List.drop_eq_getElem_cons hi, e2]
      simp
    exact absurd e (this.2.2 _ (List.mem_map.2 ⟨z, hz, rfl⟩) _ (List.mem_map.2 ⟨q, hd, rfl⟩))
theorem mid_len (zs : List Alm) (i : Nat) : (mid zs i).length + ((due zs).drop i).length ≤ zs.length := by
  have h1 := (parts_perm zs).length_eq
  rw [List.length_append] at h1
  have h2 := List.length_filter_le (fun z : Alm => decide (0 < z.2.2)) ((due zs).take i)
  unfold mid stay agn
  rw [List.length_append, List.length_map, List.length_map, List.length_drop]
  have h3 : ((due zs).take i).length ≤ (due zs).length := by rw [List.length_take]; omega
  have h4 : ((due zs).take i).length ≤ i := by rw [List.length_take]; omega
  omega
theorem tick_len (zs : List Alm) : (tickL zs).length ≤ zs.length := by
  have := mid_len zs (due zs).length
  rw [mid_all] at this
  omega
theorem due_len (zs : List Alm) : (due zs).length ≤ zs.length := List.length_filter_le _ _
/-- in how many ticks each comes again, as the map has it while they come -/
theorem pr_start (zs : List Alm) (p : Int × Int) : p ∈ pr (mid zs 0 ++ (due zs).drop 0) ↔ p ∈ pr zs := by
  rw [mid_zero, List.drop_zero, pr_app]
  unfold stay
  rw [pr_next, ← pr_app]
  exact ((parts_perm zs).map we).mem_iff
theorem pr_again {zs : List Alm} {i : Nat} {q : Alm} (hq : (due zs)[i]? = some q) (h0 : 0 < q.2.2) : pr (mid zs (i + 1) ++ (due zs).drop (i + 1)) = pr (mid zs i ++ (due zs).drop i) := by
  obtain ⟨hi, e⟩ := List.getElem?_eq_some_iff.1 hq
  rw [mid_succ zs i q hq, if_pos h0, List.drop_eq_getElem_cons hi, e, pr_app, pr_app, pr_app]
  simp [pr, we, ag]
theorem pr_once {zs : List Alm} (h : Ids zs) {i : Nat} {q : Alm} (hq : (due zs)[i]? = some q) (h0 : ¬ 0 < q.2.2) (p : Int × Int) :
    p ∈ pr (mid zs (i + 1) ++ (due zs).drop (i + 1)) ↔ p ∈ (pr (mid zs i ++ (due zs).drop i)).filter (fun y => decide (y.1 ≠ q.1)) := by
  obtain ⟨hi, e⟩ := List.getElem?_eq_some_iff.1 hq
  have hn := mid_ids h i
  rw [List.drop_eq_getElem_cons hi, e] at hn ⊢
  rw [mid_succ zs i q hq, if_neg h0, List.append_nil]
  unfold Ids at hn
  rw [List.map_append, List.map_cons, List.nodup_append, List.nodup_cons] at hn
  obtain ⟨_, ⟨h1, _⟩, h2⟩ := hn
  rw [List.mem_filter, pr_app, pr_app, List.mem_append, List.mem_append]
  have ec : pr (q :: (due zs).drop (i + 1)) = we q :: pr ((due zs).drop (i + 1)) := rfl
  rw [ec, List.mem_cons]
  constructor
  · rintro (hp | hp)
    · refine ⟨Or.inl hp, ?_⟩
      obtain ⟨z, hz, rfl⟩ := List.mem_map.1 hp
      have := h2 _ (List.mem_map.2 ⟨z, hz, rfl⟩) q.1 (by simp)
      exact decide_eq_true this
    · refine ⟨Or.inr (Or.inr hp), ?_⟩
      obtain ⟨z, hz, rfl⟩ := List.mem_map.1 hp
      have : ¬ z.1 = q.1 := fun e => h1 (List.mem_map.2 ⟨z, hz, e⟩)
      exact decide_eq_true this
  · rintro ⟨hp | hp | hp, hne⟩
    · exact Or.inl hp
    · subst hp
      simp [we] at hne
    · exact Or.inr hp
theorem pr_off (zs : List Alm) (who : Int) : pr (off zs who) = (pr zs).filter (fun y => decide (y.1 ≠ who)) := by
  unfold pr off
  rw [List.filter_map]
  rfl
theorem pr_uniq {zs : List Alm} (h : Ids zs) {a b : Int × Int} (ha : a ∈ pr zs) (hb : b ∈ pr zs) (e : a.1 = b.1) : a = b := by
  have : Keys (pr zs) := by
    unfold Keys pr
    rw [List.map_map]
    exact h
  exact keys_eq this ha hb e
end Go.Proofs.YtciafjmljmeimaaDoor
