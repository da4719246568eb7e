/- Those that sleep, as plain lists: what each answer is. No law of the program itself. -/
import Derived.Test.YtciafjmljmeimaaDoorRows
import Derived.WalkKit
import Derived.ProofKit
import Derived.OpenShut
namespace Go.Proofs.YtciafjmljmeimaaDoor
open Go Go.RowKit
set_option maxRecDepth 100000
set_option linter.unusedVariables false
/-- one behind all that have no more ticks left -/
def ins : List (Int × Int) → Int × Int → List (Int × Int)
  | [], y => [y]
  | x :: r, y => if x.2 ≤ y.2 then x :: ins r y else y :: x :: r
/-- by how many ticks are left, of as many as they stood -/
def srt (ys : List (Int × Int)) : List (Int × Int) := ys.foldl ins []
def Up (xs : List (Int × Int)) : Prop := xs.Pairwise (fun a b => a.2 ≤ b.2)
/-- each one with the ticks behind the one ahead -/
def dl (a : Int) : List (Int × Int) → List (Int × Int)
  | [] => []
  | x :: r => (x.1, x.2 - a) :: dl x.2 r
/-- so many more of the first one -/
def sh (d : Int) : List (Int × Int) → List (Int × Int)
  | [] => []
  | x :: r => (x.1, x.2 + d) :: r
/-- the ticks of the last one -/
def lst (a : Int) : List (Int × Int) → Int
  | [] => a
  | x :: r => lst x.2 r
def dec (x : Int × Int) : Int × Int := (x.1, x.2 - 1)
def woke (ys : List (Int × Int)) : List Int := (ys.filter (fun y => decide (y.2 = 1))).map Prod.fst
def rest (ys : List (Int × Int)) : List (Int × Int) := (ys.filter (fun y => decide (y.2 ≠ 1))).map dec
def gone (ys : List (Int × Int)) (who : Int) : List (Int × Int) := ys.filter (fun y => decide (y.1 ≠ who))
theorem dl_len : ∀ (xs : List (Int × Int)) (a : Int), (dl a xs).length = xs.length
  | [], _ => rfl
  | x :: r, a => by simp [dl, dl_len r]
theorem dl_app : ∀ (xs ys : List (Int × Int)) (a : Int), dl a (xs ++ ys) = dl a xs ++ dl (lst a xs) ys
  | [], _, _ => rfl
  | x :: r, ys, a => by simp [dl, lst, dl_app r]
theorem dl_sh (xs : List (Int × Int)) (a b : Int) : dl b xs = sh (a - b) (dl a xs) := by
  cases xs with
  | nil => rfl
  | cons x r => simp [dl, sh]; omega
theorem dl_dec : ∀ (xs : List (Int × Int)) (a : Int), dl a (xs.map dec) = dl (a + 1) xs
  | [], _ => rfl
  | x :: r, a => by
    have := dl_dec r (x.2 - 1)
    rw [show x.2 - 1 + 1 = x.2 by omega] at this
    simp only [List.map_cons, dl, dec]
    rw [this]
    congr 2
    omega
theorem dl_at : ∀ (xs : List (Int × Int)) (a : Int) (i : Nat), i < xs.length → (dl a xs)[i]? = some ((xs.getD i (0, 0)).1, (xs.getD i (0, 0)).2 - lst a (xs.take i))
  | [], _, _, h => by simp at h
  | x :: r, a, 0, _ => by simp [dl, lst]
  | x :: r, a, i + 1, h => by
    have := dl_at r x.2 i (by simpa using h)
    simp only [dl, List.getElem?_cons_succ, List.getD_cons_succ, List.take_succ_cons, lst]
    exact this
theorem lst_take : ∀ (xs : List (Int × Int)) (a : Int) (i : Nat), i < xs.length → lst a (xs.take (i + 1)) = (xs.getD i (0, 0)).2
  | [], _, _, h => by simp at h
  | x :: r, a, 0, _ => by simp [lst]
  | x :: r, a, i + 1, h => by
    have := lst_take r x.2 i (by simpa using h)
    simp only [List.take_succ_cons, lst, List.getD_cons_succ] at this ⊢
    exact this
theorem ins_at : ∀ (xs : List (Int × Int)) (k : Nat) (y : Int × Int), k ≤ xs.length → (∀ i, i < k → (xs.getD i (0, 0)).2 ≤ y.2) → (k < xs.length → y.2 < (xs.getD k (0, 0)).2) → ins xs y = xs.take k ++ y :: xs.drop k
  | [], k, y, hk, _, _ => by simp [ins]
  | x :: r, 0, y, _, _, h => by
    have := h (by simp)
    simp only [List.getD_cons_zero] at this
    simp [ins, show ¬ x.2 ≤ y.2 by omega]
  | x :: r, k + 1, y, hk, h1, h2 => by
    have h0 := h1 0 (by omega)
    simp only [List.getD_cons_zero] at h0
    have := ins_at r k y (by simpa using hk) (fun i hi => by simpa using h1 (i + 1) (by omega)) (fun h => by simpa using h2 (by simpa using h))
    simp [ins, h0, this]
theorem ins_perm : ∀ (xs : List (Int × Int)) (y : Int × Int), (ins xs y).Perm (y :: xs)
  | [], y => List.Perm.refl _
  | x :: r, y => by
    by_cases h : x.2 ≤ y.2
    · simp only [ins, h, if_true]
      exact ((ins_perm r y).cons x).trans (List.Perm.swap y x r)
    · simp only [ins, h, if_false]
      exact List.Perm.refl _
theorem srt_snoc (ys : List (Int × Int)) (y : Int × Int) : srt (ys ++ [y]) = ins (srt ys) y := by simp [srt]
theorem srt_nil : srt [] = [] := rfl
theorem snoc_ind {P : List (Int × Int) → Prop} (h0 : P []) (h1 : ∀ ys y, P ys → P (ys ++ [y])) (ys : List (Int × Int)) : P ys := by
  have : ∀ n (zs : List (Int × Int)), zs.length = n → P zs := by
    intro n
    induction n with
    | zero => intro zs hz; rw [List.eq_nil_of_length_eq_zero hz]; exact h0
    | succ n ih =>
      intro zs hz
      have hne : zs ≠ [] := by intro e; subst e; simp at hz
      rw [← List.dropLast_concat_getLast hne]
      exact h1 _ _ (ih _ (by simp [hz]))
  exact this _ ys rfl
theorem srt_perm (ys : List (Int × Int)) : (srt ys).Perm ys := by
  refine snoc_ind (P := fun ys => (srt ys).Perm ys) (List.Perm.refl _) (fun ys y ih => ?_) ys
  rw [srt_snoc]
  exact ((ins_perm _ _).trans (ih.cons y)).trans (List.perm_append_comm (l₁ := [y]))
theorem srt_len (ys : List (Int × Int)) : (srt ys).length = ys.length := (srt_perm ys).length_eq
theorem srt_mem {ys : List (Int × Int)} {y : Int × Int} : y ∈ srt ys ↔ y ∈ ys := (srt_perm ys).mem_iff
theorem ins_up {xs : List (Int × Int)} (h : Up xs) (y : Int × Int) : Up (ins xs y) := by
  induction xs with
  | nil => simp [ins, Up]
  | cons x r ih =>
    have hr : Up r := (List.pairwise_cons.1 h).2
    have hx := (List.pairwise_cons.1 h).1
    by_cases c : x.2 ≤ y.2
    · simp only [ins, c, if_true]
      refine List.pairwise_cons.2 ⟨fun z hz => ?_, ih hr⟩
      rcases List.mem_cons.1 ((ins_perm r y).mem_iff.1 hz) with e | e
      · subst e; exact c
      · exact hx z e
    · simp only [ins, c, if_false]
      refine List.pairwise_cons.2 ⟨fun z hz => ?_, h⟩
      rcases List.mem_cons.1 hz with e | e
      · subst e; omega
      · have := hx z e; omega
theorem srt_up (ys : List (Int × Int)) : Up (srt ys) := by
  refine snoc_ind (P := fun ys => Up (srt ys)) (by simp [srt, Up]) (fun ys y ih => ?_) ys
  rw [srt_snoc]
  exact ins_up ih y
theorem ins_less {xs : List (Int × Int)} {y : Int × Int} (h : ∀ x ∈ xs, y.2 < x.2) : ins xs y = y :: xs := by
  cases xs with
  | nil => rfl
  | cons x r => have := h x (by simp); simp [ins, show ¬ x.2 ≤ y.2 by omega]
theorem ins_last {xs : List (Int × Int)} {y : Int × Int} (h : ∀ x ∈ xs, x.2 ≤ y.2) : ins xs y = xs ++ [y] := by
  induction xs with
  | nil => rfl
  | cons x r ih => have := h x (by simp); simp [ins, this, ih (fun z hz => h z (by simp [hz]))]
theorem ins_filter (p : Int × Int → Bool) {xs : List (Int × Int)} (h : Up xs) (y : Int × Int) : (ins xs y).filter p = if p y then ins (xs.filter p) y else xs.filter p := by
  induction xs with
  | nil => by_cases hp : p y <;> simp [ins, hp]
  | cons x r ih =>
    have hr : Up r := (List.pairwise_cons.1 h).2
    have hx := (List.pairwise_cons.1 h).1
    by_cases c : x.2 ≤ y.2
    · simp only [ins, c, if_true, List.filter_cons, ih hr]
      by_cases hq : p x <;> by_cases hp : p y <;> simp [hq, hp, ins, c]
    · have hl : ∀ z ∈ (x :: r).filter p, y.2 < z.2 := by
        intro z hz
        rcases List.mem_cons.1 (List.mem_filter.1 hz).1 with e | e
        · subst e; omega
        · have := hx z e; omega
      rw [ins_less hl]
      simp only [ins, c, if_false, List.filter_cons]
theorem srt_filter (p : Int × Int → Bool) (ys : List (Int × Int)) : (srt ys).filter p = srt (ys.filter p) := by
  refine snoc_ind (P := fun ys => (srt ys).filter p = srt (ys.filter p)) rfl (fun ys y ih => ?_) ys
  rw [srt_snoc, ins_filter p (srt_up ys), ih, List.filter_append]
  by_cases hp : p y
  · rw [if_pos hp, show [y].filter p = [y] by simp [hp], srt_snoc]
  · rw [if_neg hp, show [y].filter p = [] by simp [hp], List.append_nil]
theorem ins_dec (xs : List (Int × Int)) (y : Int × Int) : ins (xs.map dec) (dec y) = (ins xs y).map dec := by
  induction xs with
  | nil => rfl
  | cons x r ih =>
    by_cases c : x.2 ≤ y.2
    · simp only [List.map_cons, ins, c, if_true, ih]
      rw [if_pos (by simp only [dec]; omega)]
    · simp only [List.map_cons, ins, c, if_false]
      rw [if_neg (by simp only [dec]; omega)]
theorem srt_dec (ys : List (Int × Int)) : srt (ys.map dec) = (srt ys).map dec := by
  refine snoc_ind (P := fun ys => srt (ys.map dec) = (srt ys).map dec) rfl (fun ys y ih => ?_) ys
  rw [List.map_append, List.map_cons, List.map_nil, srt_snoc, srt_snoc, ih, ins_dec]
theorem srt_same {c : Int} {ys : List (Int × Int)} (h : ∀ y ∈ ys, y.2 = c) : srt ys = ys := by
  revert h
  refine snoc_ind (P := fun ys => (∀ y ∈ ys, y.2 = c) → srt ys = ys) (fun _ => rfl) (fun ys y ih h => ?_) ys
  rw [srt_snoc, ih (fun z hz => h z (by simp [hz]))]
  exact ins_last fun x hx => by rw [h x (by simp [hx]), h y (by simp)]; exact Int.le_refl _
/-- who wake, and who do not -/
theorem srt_woke (ys : List (Int × Int)) : ((srt ys).filter (fun y => decide (y.2 = 1))).map Prod.fst = woke ys := by
  rw [srt_filter, srt_same (c := 1) (fun y hy => by simpa using (List.mem_filter.1 hy).2)]
  rfl
theorem srt_rest (ys : List (Int × Int)) : srt (rest ys) = ((srt ys).filter (fun y => decide (y.2 ≠ 1))).map dec := by
  rw [srt_filter, ← srt_dec]; rfl
theorem srt_gone (ys : List (Int × Int)) (who : Int) : srt (gone ys who) = (srt ys).filter (fun y => decide (y.1 ≠ who)) := (srt_filter _ _).symm
theorem getD_mem {xs : List (Int × Int)} {i : Nat} (h : i < xs.length) : xs.getD i (0, 0) ∈ xs := by
  rw [List.getD_eq_getElem?_getD, List.getElem?_eq_getElem h]
  exact List.getElem_mem h
/-- those of the first tick stand ahead -/
theorem cut_tick {xs : List (Int × Int)} (hu : Up xs) (hl : ∀ x ∈ xs, 1 ≤ x.2) {k : Nat} (hk : k ≤ xs.length) (h1 : ∀ i, i < k → (xs.getD i (0, 0)).2 ≤ 1) (h2 : k < xs.length → 1 < (xs.getD k (0, 0)).2) :
    xs.filter (fun y => decide (y.2 = 1)) = xs.take k ∧ xs.filter (fun y => decide (y.2 ≠ 1)) = xs.drop k := by
  have ha : ∀ x ∈ xs.take k, x.2 = 1 := by
    intro x hx
    obtain ⟨i, hi, e⟩ := List.getElem_of_mem hx
    rw [List.getElem_take] at e
    have hik : i < k := by simp at hi; omega
    have := h1 i hik
    rw [List.getD_eq_getElem?_getD, List.getElem?_eq_getElem (by omega)] at this
    have h3 := hl x (List.mem_of_mem_take hx)
    rw [← e] at h3 ⊢
    simp only [Option.getD_some] at this
    omega
  have hb : ∀ x ∈ xs.drop k, x.2 ≠ 1 := by
    intro x hx
    have hkl : k < xs.length := by
      rcases Nat.lt_or_ge k xs.length with h | h
      · exact h
      · rw [List.drop_eq_nil_of_le h] at hx; simp at hx
    have h3 := h2 hkl
    rw [List.getD_eq_getElem?_getD, List.getElem?_eq_getElem hkl, Option.getD_some] at h3
    rw [List.drop_eq_getElem_cons hkl] at hx
    rcases List.mem_cons.1 hx with e | e
    · subst e; omega
    · have hp : Up (xs.drop k) := List.Pairwise.drop hu
      rw [List.drop_eq_getElem_cons hkl] at hp
      have := (List.pairwise_cons.1 hp).1 x e
      omega
  have e := List.take_append_drop k xs
  constructor
  · conv => lhs; rw [← e]
    rw [List.filter_append, List.filter_eq_self.2 (fun x hx => by simpa using ha x hx), List.filter_eq_nil_iff.2 (fun x hx => by simpa using hb x hx), List.append_nil]
  · conv => lhs; rw [← e]
    rw [List.filter_append, List.filter_eq_nil_iff.2 (fun x hx => by simpa using ha x hx), List.filter_eq_self.2 (fun x hx => by simpa using hb x hx), List.nil_append]
theorem lst_all {xs : List (Int × Int)} {a : Int} (h : ∀ x ∈ xs, x.2 = a) : lst a xs = a := by
  induction xs generalizing a with
  | nil => rfl
  | cons x r ih =>
    have hx := h x (by simp)
    simp only [lst]
    rw [hx]
    exact ih fun z hz => h z (by simp [hz])
theorem dl_drop {xs : List (Int × Int)} {k : Nat} (h : ∀ x ∈ xs.take k, x.2 = 0) : (dl 0 xs).drop k = dl 0 (xs.drop k) := by
  rcases Nat.lt_or_ge k xs.length with hk | hk
  · have e := dl_app (xs.take k) (xs.drop k) 0
    rw [List.take_append_drop, lst_all h] at e
    rw [e, List.drop_append, dl_len, List.drop_eq_nil_of_le (by rw [dl_len]; simp; omega)]
    simp [Nat.min_eq_left (Nat.le_of_lt hk)]
  · rw [List.drop_eq_nil_of_le (by rw [dl_len]; exact hk), List.drop_eq_nil_of_le hk]; rfl
/-- what an insertion, and a removal, make of the ticks behind -/
theorem dl_take (xs : List (Int × Int)) (a : Int) (k : Nat) (hk : k ≤ xs.length) : (dl a xs).take k = dl a (xs.take k) ∧ (dl a xs).drop k = dl (lst a (xs.take k)) (xs.drop k) := by
  have e := dl_app (xs.take k) (xs.drop k) a
  rw [List.take_append_drop] at e
  have hl : (dl a (xs.take k)).length = k := by rw [dl_len]; simp; omega
  rw [e]
  constructor
  · rw [List.take_append_of_le_length (by omega), List.take_of_length_le (by omega)]
  · rw [List.drop_append, hl, Nat.sub_self, List.drop_eq_nil_of_le (by omega)]; simp
theorem dl_ins (xs : List (Int × Int)) (k : Nat) (hk : k ≤ xs.length) (y : Int × Int) :
    dl 0 (xs.take k ++ y :: xs.drop k) = (dl 0 xs).take k ++ (y.1, y.2 - lst 0 (xs.take k)) :: sh (lst 0 (xs.take k) - y.2) ((dl 0 xs).drop k) := by
  obtain ⟨e1, e2⟩ := dl_take xs 0 k hk
  rw [e1, e2, ← dl_sh, dl_app]
  rfl
theorem dl_rem (xs : List (Int × Int)) (k : Nat) (hk : k < xs.length) :
    dl 0 (xs.eraseIdx k) = (dl 0 xs).take k ++ sh ((xs.getD k (0, 0)).2 - lst 0 (xs.take k)) ((dl 0 xs).drop (k + 1)) := by
  obtain ⟨e1, e2⟩ := dl_take xs 0 k (by omega)
  obtain ⟨e3, e4⟩ := dl_take xs 0 (k + 1) (by omega)
  rw [lst_take xs 0 k hk] at e4
  rw [List.eraseIdx_eq_take_drop_succ, dl_app, e1, e4, ← dl_sh]
def Keys (xs : List (Int × Int)) : Prop := (xs.map Prod.fst).Nodup
theorem keys_eq {xs : List (Int × Int)} (h : Keys xs) {x y : Int × Int} (hx : x ∈ xs) (hy : y ∈ xs) (e : x.1 = y.1) : x = y := by
  unfold Keys at h
  induction xs with
  | nil => simp at hx
  | cons z r ih =>
    rw [List.map_cons, List.nodup_cons] at h
    rcases List.mem_cons.1 hx with rfl | hx
    · rcases List.mem_cons.1 hy with rfl | hy
      · rfl
      · exact absurd (List.mem_map.2 ⟨y, hy, e.symm⟩) h.1
    · rcases List.mem_cons.1 hy with hy | hy
      · subst hy; exact absurd (List.mem_map.2 ⟨x, by assumption, e⟩) h.1
      · exact ih h.2 (by assumption) hy
theorem erase_gone : ∀ {xs : List (Int × Int)}, Keys xs → ∀ {k : Nat}, k < xs.length → ∀ {who : Int}, (xs.getD k (0, 0)).1 = who → xs.eraseIdx k = xs.filter (fun y => decide (y.1 ≠ who))
  | [], _, _, h, _, _ => by simp at h
  | x :: r, hk, 0, _, who, e => by
    simp only [List.getD_cons_zero] at e
    subst e
    unfold Keys at hk
    rw [List.map_cons, List.nodup_cons] at hk
    simp only [List.eraseIdx_zero, List.tail_cons, List.filter_cons, ne_eq, decide_not, decide_true, Bool.not_true]
    rw [List.filter_eq_self.2]
    · rfl
    · intro y hy
      have : y.1 ≠ x.1 := fun e => hk.1 (List.mem_map.2 ⟨y, hy, e⟩)
      simpa using this
  | x :: r, hk, k + 1, h, who, e => by
    unfold Keys at hk
    rw [List.map_cons, List.nodup_cons] at hk
    have hkr : k < r.length := by simpa using h
    have e' : (r.getD k (0, 0)).1 = who := by simpa using e
    have hx : x.1 ≠ who := fun c => hk.1 (List.mem_map.2 ⟨_, getD_mem hkr, e'.trans c.symm⟩)
    rw [List.eraseIdx_cons_succ, erase_gone (xs := r) hk.2 hkr e', List.filter_cons, if_pos (by simpa using hx)]
/-- those that sleep, in the order in which they were put -/
structure Good (ys : List (Int × Int)) : Prop where
  keys : Keys ys
  lo : ∀ y ∈ ys, 1 ≤ y.2
  hi : ∀ y ∈ ys, y.2 ≤ 1073741824
  who : ∀ y ∈ ys, 0 ≤ y.1
theorem Good.nil : Good [] := ⟨by simp [Keys], by simp, by simp, by simp⟩
theorem Keys.perm {xs ys : List (Int × Int)} (h : Keys xs) (p : xs.Perm ys) : Keys ys := (p.map Prod.fst).nodup_iff.1 h
theorem Keys.filter {xs : List (Int × Int)} (h : Keys xs) (p : Int × Int → Bool) : Keys (xs.filter p) := by
  unfold Keys at h ⊢
  exact h.sublist (List.Sublist.map _ List.filter_sublist)
theorem Good.filter {ys : List (Int × Int)} (h : Good ys) (p : Int × Int → Bool) : Good (ys.filter p) :=
  ⟨h.keys.filter p, fun y hy => h.lo y (List.mem_filter.1 hy).1, fun y hy => h.hi y (List.mem_filter.1 hy).1, fun y hy => h.who y (List.mem_filter.1 hy).1⟩
theorem Good.gone {ys : List (Int × Int)} (h : Good ys) (who : Int) : Good (gone ys who) := h.filter _
theorem Good.rest {ys : List (Int × Int)} (h : Good ys) : Good (rest ys) := by
  have hf := h.filter (fun y => decide (y.2 ≠ 1))
  refine ⟨?_, ?_, ?_, ?_⟩
  · have := hf.keys
    unfold Keys at this ⊢
    unfold Go.Proofs.YtciafjmljmeimaaDoor.rest
    rw [List.map_map]
    exact this
  all_goals
    intro y hy
    obtain ⟨z, hz, rfl⟩ := List.mem_map.1 hy
    have h1 := hf.lo z hz
    have h2 := hf.hi z hz
    have h3 := hf.who z hz
    have h4 := (List.mem_filter.1 hz).2
    simp only [dec] at *
    simp at h4
    omega
theorem Good.put {ys : List (Int × Int)} (h : Good ys) {who t : Int} (hw : 0 ≤ who) (h1 : 1 ≤ t) (h2 : t ≤ 1073741824) (hn : ∀ y ∈ ys, y.1 ≠ who) : Good (ys ++ [(who, t)]) := by
  refine ⟨?_, ?_, ?_, ?_⟩
  · have := h.keys
    unfold Keys at this ⊢
    rw [List.map_append, List.nodup_append]
    refine ⟨this, by simp, fun a ha b hb => ?_⟩
    obtain ⟨y, hy, rfl⟩ := List.mem_map.1 ha
    have : b = who := by simpa using hb
    subst this
    exact hn y hy
  all_goals
    intro y hy
    rcases List.mem_append.1 hy with hy | hy
    · first | exact h.lo y hy | exact h.hi y hy | exact h.who y hy
    · obtain rfl : y = (who, t) := by simpa using hy
      assumption
theorem Good.sorted {ys : List (Int × Int)} (h : Good ys) : Good (srt ys) :=
  ⟨h.keys.perm (srt_perm ys).symm, fun y hy => h.lo y (srt_mem.1 hy), fun y hy => h.hi y (srt_mem.1 hy), fun y hy => h.who y (srt_mem.1 hy)⟩
theorem rest_len (ys : List (Int × Int)) : (rest ys).length ≤ ys.length := by
  unfold rest
  rw [List.length_map]
  exact List.length_filter_le _ _
theorem gone_len (ys : List (Int × Int)) (who : Int) : (gone ys who).length ≤ ys.length := List.length_filter_le _ _
theorem woke_len (ys : List (Int × Int)) : (woke ys).length ≤ ys.length := by
  unfold woke
  rw [List.length_map]
  exact List.length_filter_le _ _
/-- all that sleep, by when they wake -/
def allOf (ys : List (Int × Int)) : List Int := (srt ys).map Prod.fst
theorem allOf_len (ys : List (Int × Int)) : (allOf ys).length = ys.length := by rw [allOf, List.length_map, srt_len]
end Go.Proofs.YtciafjmljmeimaaDoor
