/- What a table of handles answers, as plain functions of what its places hold. No law of the program itself. -/
import Derived.Test.YtkogmmldkpepaaaDoorRows
import Derived.WalkKit
import Derived.ProofKit
import Derived.OpenShut
namespace Go.Proofs.YtkogmmldkpepaaaDoor
open Go Go.RowKit
set_option maxRecDepth 100000
set_option linter.unusedVariables false
/-- of each place its last generation, and whether that handle is there -/
abbrev Slots := Nat → Nat × Bool
def none0 : Slots := fun _ => (0, false)
def upd (s : Slots) (k : Nat) (x : Nat × Bool) : Slots := fun i => if i = k then x else s i
theorem upd_at (s : Slots) (k : Nat) (x : Nat × Bool) : upd s k x k = x := by simp [upd]
theorem upd_ne (s : Slots) {k i : Nat} (x : Nat × Bool) (h : i ≠ k) : upd s k x i = s i := by simp [upd, h]
def isFr (x : Nat × Bool) : Bool := !x.2 && decide (x.1 < 16777215)
/-- the first place from a on, of so many, that is as it is sought -/
def nxt (q : Nat → Bool) : Nat → Nat → Nat
  | a, 0 => a
  | a, m + 1 => if q a then a else nxt q (a + 1) m
theorem nxt_ge (q : Nat → Bool) : ∀ m a, a ≤ nxt q a m
  | 0, a => Nat.le_refl _
  | m + 1, a => by
    unfold nxt
    split
    · exact Nat.le_refl _
    · have := nxt_ge q m (a + 1); omega
theorem nxt_le (q : Nat → Bool) : ∀ m a, nxt q a m ≤ a + m
  | 0, a => Nat.le_refl _
  | m + 1, a => by
    unfold nxt
    split
    · omega
    · have := nxt_le q m (a + 1); omega
theorem nxt_low (q : Nat → Bool) : ∀ m a j, a ≤ j → j < nxt q a m → q j = false
  | 0, a, j, h1, h2 => by unfold nxt at h2; omega
  | m + 1, a, j, h1, h2 => by
    unfold nxt at h2
    split at h2
    · omega
    · rename_i hq
      by_cases e : j = a
      · subst e; simpa using hq
      · exact nxt_low q m (a + 1) j (by omega) h2
theorem nxt_yes (q : Nat → Bool) : ∀ m a, nxt q a m < a + m → q (nxt q a m) = true
  | 0, a, h => by unfold nxt at h; omega
  | m + 1, a, h => by
    unfold nxt at h ⊢
    split
    · assumption
    · rename_i hq
      rw [if_neg hq] at h
      exact nxt_yes q m (a + 1) (by omega)
theorem nxt_is (q : Nat → Bool) {m a k : Nat} (h1 : a ≤ k) (h2 : k ≤ a + m) (hl : ∀ j, a ≤ j → j < k → q j = false) (hy : k < a + m → q k = true) : nxt q a m = k := by
  rcases Nat.lt_trichotomy (nxt q a m) k with h | h | h
  · have := hl _ (nxt_ge q m a) h
    rw [nxt_yes q m a (by omega)] at this; cases this
  · exact h
  · have := nxt_low q m a k h1 h
    have hk := nxt_le q m a
    rw [hy (by omega)] at this; cases this
/-- the least place that is free, or how many there are -/
def fr (n : Nat) (s : Slots) : Nat := nxt (fun i => isFr (s i)) 0 n
theorem fr_le (n : Nat) (s : Slots) : fr n s ≤ n := by have := nxt_le (fun i => isFr (s i)) n 0; unfold fr; omega
theorem fr_low {n : Nat} {s : Slots} {j : Nat} (h : j < fr n s) : isFr (s j) = false := nxt_low (fun i => isFr (s i)) n 0 j (Nat.zero_le _) h
theorem fr_yes {n : Nat} {s : Slots} (h : fr n s < n) : isFr (s (fr n s)) = true := nxt_yes (fun i => isFr (s i)) n 0 (by unfold fr at h; omega)
theorem fr_is {n : Nat} {s : Slots} {k : Nat} (h : k ≤ n) (hl : ∀ j, j < k → isFr (s j) = false) (hy : k < n → isFr (s k) = true) : fr n s = k :=
  nxt_is _ (Nat.zero_le _) (by omega) (fun j _ hj => hl j hj) (fun hk => hy (by omega))
theorem isFr_not {x : Nat × Bool} (h : isFr x = true) : x.2 = false ∧ x.1 < 16777215 := by simpa [isFr] using h
def makeE (n : Nat) (s : Slots) : Int := if fr n s < n then 0 else 3
def makeH (n : Nat) (s : Slots) : Nat := if fr n s < n then ((s (fr n s)).1 + 1) * 256 + fr n s else 0
def makeS (n : Nat) (s : Slots) : Slots := if fr n s < n then upd s (fr n s) ((s (fr n s)).1 + 1, true) else s
def placeE (s : Slots) (h : Nat) : Int :=
  if h / 256 = 0 ∨ (s (h % 256)).1 < h / 256 then 5 else if h / 256 < (s (h % 256)).1 ∨ (s (h % 256)).2 = false then 6 else 0
def placeP (s : Slots) (h : Nat) : Nat := if placeE s h = 0 then h % 256 else 0
def dropS (s : Slots) (h : Nat) : Slots := if placeE s h = 0 then upd s (h % 256) ((s (h % 256)).1, false) else s
/-- the handle that a place had last -/
def hd (s : Slots) (i : Nat) : Nat := (s i).1 * 256 + i
/-- those of the first places that are there -/
def listL (n : Nat) (s : Slots) : List Nat := ((List.range n).filter (fun i => (s i).2)).map (hd s)
def ints (l : List Nat) : List Int := l.map Int.ofNat
theorem ints_len (l : List Nat) : (ints l).length = l.length := by simp [ints]
theorem ints_get (l : List Nat) (i : Nat) : (ints l).getD i 0 = ((l.getD i 0 : Nat) : Int) := by
  unfold ints
  by_cases h : i < l.length
  · simp [h]
  · simp [Nat.le_of_not_lt h]
theorem ints_app (l m : List Nat) : ints (l ++ m) = ints l ++ ints m := by simp [ints]
theorem ints_inj {l m : List Nat} (h : ints l = ints m) : l = m := by
  unfold ints at h
  exact List.map_inj_right (fun a b e => Int.ofNat.inj e) |>.1 h
theorem listL_zero (s : Slots) : listL 0 s = [] := rfl
theorem listL_succ (n : Nat) (s : Slots) : listL (n + 1) s = listL n s ++ (if (s n).2 then [hd s n] else []) := by
  unfold listL
  rw [List.range_succ, List.filter_append, List.map_append]
  by_cases h : (s n).2 = true
  · simp [h]
  · simp [h]
/-- how many are there -/
def tk (n : Nat) (s : Slots) : Nat := (listL n s).length
theorem tk_succ (n : Nat) (s : Slots) : tk (n + 1) s = tk n s + (if (s n).2 then 1 else 0) := by
  unfold tk
  rw [listL_succ, List.length_append]
  split <;> rfl
theorem tk_le (n : Nat) (s : Slots) : tk n s ≤ n := by
  induction n with
  | zero => simp [tk, listL]
  | succ n ih => rw [tk_succ]; split <;> omega
theorem tk_all {n : Nat} {s : Slots} (h : ∀ j, j < n → (s j).2 = true) : tk n s = n := by
  induction n with
  | zero => rfl
  | succ n ih => rw [tk_succ, ih (fun j hj => h j (by omega)), if_pos (h n (by omega))]
theorem tk_none {n : Nat} {s : Slots} (h : ∀ j, j < n → (s j).2 = false) : tk n s = 0 := by
  induction n with
  | zero => rfl
  | succ n ih => rw [tk_succ, ih (fun j hj => h j (by omega)), if_neg (by simp [h n (by omega)])]
theorem tk_same {n : Nat} {s s' : Slots} (h : ∀ j, j < n → (s' j).2 = (s j).2) : tk n s' = tk n s := by
  induction n with
  | zero => rfl
  | succ n ih => rw [tk_succ, tk_succ, ih (fun j hj => h j (by omega)), h n (by omega)]
theorem tk_upd {n k : Nat} {s : Slots} {x : Nat × Bool} (hk : k < n) : tk n (upd s k x) + (if (s k).2 then 1 else 0) = tk n s + (if x.2 then 1 else 0) := by
  induction n with
  | zero => omega
  | succ n ih =>
    rw [tk_succ, tk_succ]
    by_cases e : k = n
    · subst e
      rw [upd_at, tk_same (fun j hj => by rw [upd_ne _ _ (by omega)])]
      omega
    · rw [upd_ne _ _ (by omega)]
      have := ih (by omega)
      omega
/-- what all tables hold -/
structure Good (n : Nat) (s : Slots) : Prop where
  over : ∀ i, n ≤ i → s i = (0, false)
  top : ∀ i, (s i).1 ≤ 16777215
  one : ∀ i, (s i).2 = true → 1 ≤ (s i).1
theorem Good.zero (n : Nat) : Good n none0 := ⟨fun _ _ => rfl, fun i => by simp [none0], fun i h => by simp [none0] at h⟩
theorem Good.upd {n : Nat} {s : Slots} (h : Good n s) {k : Nat} {x : Nat × Bool} (hk : k < n) (h1 : x.1 ≤ 16777215) (h2 : x.2 = true → 1 ≤ x.1) : Good n (upd s k x) := by
  refine ⟨fun i hi => ?_, fun i => ?_, fun i => ?_⟩
  · rw [upd_ne _ _ (by omega)]; exact h.over i hi
  · by_cases e : i = k
    · subst e; rw [upd_at]; exact h1
    · rw [upd_ne _ _ e]; exact h.top i
  · by_cases e : i = k
    · subst e; rw [upd_at]; exact h2
    · rw [upd_ne _ _ e]; exact h.one i
theorem Good.make {n : Nat} {s : Slots} (h : Good n s) : Good n (makeS n s) := by
  unfold makeS
  split
  · rename_i hf
    have := (isFr_not (fr_yes hf)).2
    exact h.upd hf (by simp only; omega) (fun _ => by simp only; omega)
  · exact h
theorem placeE_ok {s : Slots} {h : Nat} (hp : placeE s h = 0) : 1 ≤ h / 256 ∧ (s (h % 256)).1 = h / 256 ∧ (s (h % 256)).2 = true := by
  unfold placeE at hp
  split at hp
  · cases hp
  · split at hp
    · cases hp
    · rename_i h1 h2
      refine ⟨by omega, by omega, ?_⟩
      cases hb : (s (h % 256)).2
      · exact absurd (Or.inr hb) h2
      · rfl
theorem placeE_of {s : Slots} {h : Nat} (h1 : 1 ≤ h / 256) (h2 : (s (h % 256)).1 = h / 256) (h3 : (s (h % 256)).2 = true) : placeE s h = 0 := by
  unfold placeE
  rw [if_neg (by omega), if_neg (by rw [h3]; simp; omega)]
theorem Good.lt {n : Nat} {s : Slots} {h : Nat} (g : Good n s) (hp : placeE s h = 0) : h % 256 < n := by
  rcases Nat.lt_or_ge (h % 256) n with k | k
  · exact k
  · have := (placeE_ok hp).2.2
    rw [g.over _ k] at this; cases this
theorem Good.drop {n : Nat} {s : Slots} (g : Good n s) (h : Nat) : Good n (dropS s h) := by
  unfold dropS
  split
  · rename_i hp
    exact g.upd (g.lt hp) (g.top _) (fun e => by cases e)
  · exact g
theorem dropS_no {s : Slots} {h : Nat} (hp : placeE s h ≠ 0) : dropS s h = s := if_neg hp
theorem placeE_cases (s : Slots) (h : Nat) : placeE s h = 0 ∨ placeE s h = 5 ∨ placeE s h = 6 := by
  unfold placeE
  split
  · exact Or.inr (Or.inl rfl)
  · split
    · exact Or.inr (Or.inr rfl)
    · exact Or.inl rfl
theorem mem_listL {n : Nat} {s : Slots} (g : Good n s) (hn : n ≤ 256) (h : Nat) : h ∈ listL n s ↔ placeE s h = 0 := by
  unfold listL
  rw [List.mem_map]
  constructor
  · rintro ⟨i, hi, rfl⟩
    simp only [List.mem_filter, List.mem_range] at hi
    have h1 := g.one i hi.2
    have e1 : hd s i % 256 = i := by unfold hd; omega
    have e2 : hd s i / 256 = (s i).1 := by unfold hd; omega
    exact placeE_of (by omega) (by rw [e1, e2]) (by rw [e1]; exact hi.2)
  · intro hp
    obtain ⟨h1, h2, h3⟩ := placeE_ok hp
    refine ⟨h % 256, by simp [g.lt hp, h3], ?_⟩
    unfold hd; omega
theorem listL_at {n : Nat} {s : Slots} (g : Good n s) (hn : n ≤ 256) {i : Nat} (hi : i < (listL n s).length) : placeE s ((listL n s).getD i 0) = 0 := by
  rw [← mem_listL g hn, show (listL n s).getD i 0 = (listL n s)[i] by simp [hi]]
  exact List.getElem_mem hi
theorem hd_le {n : Nat} {s : Slots} (g : Good n s) (hn : n ≤ 256) {i : Nat} (hi : i < n) : hd s i ≤ 4294967295 := by
  have := g.top i
  unfold hd; omega
theorem listL_w {n : Nat} {s : Slots} (g : Good n s) (hn : n ≤ 256) : ∀ x ∈ listL n s, x ≤ 4294967295 := by
  intro x hx
  obtain ⟨i, hi, rfl⟩ := List.mem_map.1 hx
  simp only [List.mem_filter, List.mem_range] at hi
  exact hd_le g hn hi.1
/-- they rise by their places -/
theorem listL_rise {n : Nat} {s : Slots} (hn : n ≤ 256) : (listL n s).Pairwise (fun x y => x % 256 < y % 256) := by
  induction n with
  | zero => simp [listL_zero]
  | succ n ih =>
    rw [listL_succ, List.pairwise_append]
    refine ⟨ih (by omega), by split <;> simp, fun a ha b hb => ?_⟩
    obtain ⟨i, hi, rfl⟩ := List.mem_map.1 ha
    simp only [List.mem_filter, List.mem_range] at hi
    split at hb
    · simp only [List.mem_singleton] at hb
      subst hb
      unfold hd
      omega
    · simp at hb
/-- what Make tells is new, and is there from then on -/
theorem make_was {n : Nat} {s : Slots} (hn : n ≤ 256) (hf : fr n s < n) : placeE s (makeH n s) = 5 := by
  unfold makeH
  rw [if_pos hf]
  unfold placeE
  rw [show (((s (fr n s)).1 + 1) * 256 + fr n s) % 256 = fr n s by omega, show (((s (fr n s)).1 + 1) * 256 + fr n s) / 256 = (s (fr n s)).1 + 1 by omega, if_pos (by omega)]
theorem make_is {n : Nat} {s : Slots} (hn : n ≤ 256) (hf : fr n s < n) : placeE (makeS n s) (makeH n s) = 0 := by
  unfold makeH makeS
  rw [if_pos hf, if_pos hf]
  refine placeE_of (by omega) ?_ ?_
  · rw [show (((s (fr n s)).1 + 1) * 256 + fr n s) % 256 = fr n s by omega, upd_at]; simp only; omega
  · rw [show (((s (fr n s)).1 + 1) * 256 + fr n s) % 256 = fr n s by omega, upd_at]
theorem make_else {n : Nat} {s : Slots} (hn : n ≤ 256) {h : Nat} (hh : fr n s < n → h ≠ makeH n s) : placeE (makeS n s) h = placeE s h := by
  by_cases hf : fr n s < n
  · have hne := hh hf
    have hno := isFr_not (fr_yes hf)
    unfold makeS
    rw [if_pos hf]
    unfold makeH at hne
    rw [if_pos hf] at hne
    unfold placeE
    by_cases e : h % 256 = fr n s
    · rw [e, upd_at, hno.1]
      simp only
      by_cases c1 : h / 256 = 0
      · rw [if_pos (Or.inl c1), if_pos (Or.inl c1)]
      · by_cases c2 : (s (fr n s)).1 < h / 256
        · rw [if_pos (Or.inr c2), if_pos (by omega)]
        · rw [if_neg (by omega), if_pos (Or.inl (by omega)), if_neg (by omega), if_pos (Or.inr trivial)]
    · rw [upd_ne _ _ e]
  · unfold makeS
    rw [if_neg hf]
theorem make_tk {n : Nat} {s : Slots} (hf : fr n s < n) : tk n (makeS n s) = tk n s + 1 := by
  unfold makeS
  rw [if_pos hf]
  have := tk_upd (s := s) (x := ((s (fr n s)).1 + 1, true)) hf
  rw [(isFr_not (fr_yes hf)).1] at this
  simpa using this
theorem drop_is {s : Slots} {h : Nat} (hp : placeE s h = 0) : placeE (dropS s h) h = 6 := by
  obtain ⟨h1, h2, h3⟩ := placeE_ok hp
  unfold dropS
  rw [if_pos hp]
  unfold placeE
  rw [upd_at]
  rw [if_neg (by simp only; omega), if_pos (Or.inr rfl)]
theorem drop_else {s : Slots} {h x : Nat} (hx : x ≠ h) : placeE (dropS s h) x = placeE s x := by
  unfold dropS
  split
  · rename_i hp
    obtain ⟨h1, h2, h3⟩ := placeE_ok hp
    unfold placeE
    by_cases e : x % 256 = h % 256
    · rw [e, upd_at, h3]
      simp only
      by_cases c1 : x / 256 = 0
      · rw [if_pos (Or.inl c1), if_pos (Or.inl c1)]
      · by_cases c2 : (s (h % 256)).1 < x / 256
        · rw [if_pos (Or.inr c2), if_pos (Or.inr c2)]
        · rw [if_neg (by omega), if_pos (Or.inr trivial), if_neg (by omega), if_pos (Or.inl (by omega))]
    · rw [upd_ne _ _ e]
  · rfl
theorem drop_tk {n : Nat} {s : Slots} {h : Nat} (g : Good n s) (hp : placeE s h = 0) : tk n (dropS s h) + 1 = tk n s := by
  unfold dropS
  rw [if_pos hp]
  have := tk_upd (s := s) (x := ((s (h % 256)).1, false)) (g.lt hp)
  rw [(placeE_ok hp).2.2] at this
  simpa using this
/-- no place is older than so many turns -/
def Young (m : Nat) (s : Slots) : Prop := ∀ i, (s i).1 ≤ m
theorem Young.zero : Young 0 none0 := fun i => Nat.le_refl _
theorem Young.mono {m m' : Nat} {s : Slots} (h : Young m s) (hm : m ≤ m') : Young m' s := fun i => Nat.le_trans (h i) hm
theorem Young.make {m n : Nat} {s : Slots} (h : Young m s) : Young (m + 1) (makeS n s) := by
  intro i
  unfold makeS
  split
  · by_cases e : i = fr n s
    · subst e; rw [upd_at]; have := h (fr n s); simp only; omega
    · rw [upd_ne _ _ e]; have := h i; omega
  · have := h i; omega
theorem Young.drop {m : Nat} {s : Slots} (h : Young m s) (x : Nat) : Young m (dropS s x) := by
  intro i
  unfold dropS
  split
  · by_cases e : i = x % 256
    · subst e; rw [upd_at]; exact h (x % 256)
    · rw [upd_ne _ _ e]; exact h i
  · exact h i
theorem young_fr {m : Nat} {s : Slots} (h : Young m s) (hm : m < 16777215) (i : Nat) : isFr (s i) = !(s i).2 := by
  have := h i
  simp [isFr, show (s i).1 < 16777215 by omega]
theorem full_tk {m n : Nat} {s : Slots} (h : Young m s) (hm : m < 16777215) (hf : ¬ fr n s < n) : tk n s = n := by
  refine tk_all fun j hj => ?_
  have := fr_low (n := n) (s := s) (j := j) (by omega)
  rw [young_fr h hm] at this
  simpa using this
end Go.Proofs.YtkogmmldkpepaaaDoor
