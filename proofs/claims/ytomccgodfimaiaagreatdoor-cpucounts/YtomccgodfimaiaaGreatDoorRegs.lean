/- Laws of regions that draw their order. -/
import Derived.Test.YtomccgodfimaiaaGreatDoorCalm
import Derived.OrdersHeld
namespace Go.Proofs.YtomccgodfimaiaaGreatDoor
set_option linter.all false
namespace Lx
open Go Go.RowKit
set_option linter.unusedVariables false
section
variable {P : Program} {ops : Array Oper} {md : Region.Mode} {C : World → Prop} {Q : Exit → Act → World → Prop}
/-- whatever order is picked for so many operations; then this -/
def wpAnyT (P : Program) (md : Region.Mode) (ops : Array Oper) (C : World → Prop) (T : Array Bool → Act → Prop) : Nat → Array Bool → Act → Prop
  | 0, listed, a => T listed a
  | fuel + 1, listed, a => Region.ready md ops listed ≠ [] ∧ ∀ i ∈ Region.ready md ops listed, qOp P ops C i (wpAnyT P md ops C T fuel (listed.setIfInBounds i true)) a
theorem any_of_T {m : Nat} : ∀ (fuel : Nat) (listed : Array Bool) (a : Act) (w : World), C w →
    wpAnyT P md ops C (fun l a => ∀ w, C w → wpAny P md ops Q m l a w) fuel listed a → wpAny P md ops Q (m + fuel) listed a w
  | 0, _, _, w, hw, h => h w hw
  | fuel + 1, _, _, _, hw, h => ⟨fun h0 => absurd h0 h.1, fun i hi => wpOp_of_qOp hw (fun a' w' hw' hk => any_of_T fuel _ a' w' hw' hk) (h.2 i hi)⟩
/-- what is listed has all listed that it waits for -/
def Cl (md : Region.Mode) (ops : Array Oper) (listed : Array Bool) : Prop :=
  ∀ (j : Nat) oj, ops[j]? = some oj → listed.getD j false = true → ∀ e ∈ oj.after, Region.binds md e = true → listed.getD e.on false = true
def reachB (md : Region.Mode) (ops : Array Oper) : Nat → Nat → Nat → Bool
  | 0, _, _ => false
  | f + 1, j, i => match ops[j]? with
    | none => false
    | some o => o.after.any fun e => Region.binds md e && (e.on == i || reachB md ops f e.on i)
theorem reach_listed {listed : Array Bool} (hcl : Cl md ops listed) : ∀ (f j i : Nat) (oj : Oper), ops[j]? = some oj → (∀ e ∈ oj.after, Region.binds md e = true → listed.getD e.on false = true) → reachB md ops f j i = true → listed.getD i false = true
  | 0, _, _, _, _, _, h => by cases h
  | f + 1, j, i, oj, hj, ha, h => by
    simp only [reachB, hj] at h
    obtain ⟨e, he, hb⟩ := Array.any_eq_true'.1 h
    simp only [Bool.and_eq_true, Bool.or_eq_true, beq_iff_eq] at hb
    have h1 := ha e he hb.1
    rcases hb.2 with h2 | h2
    · rw [← h2]; exact h1
    · cases ho : ops[e.on]? with
      | none =>
        cases f with
        | zero => cases h2
        | succ f => simp [reachB, ho] at h2
      | some o => exact reach_listed hcl f e.on i o ho (hcl e.on o ho h1) h2
theorem cl_set {listed : Array Bool} {j : Nat} (hcl : Cl md ops listed) (hj : j ∈ Region.ready md ops listed) : Cl md ops (listed.setIfInBounds j true) := by
  intro k ok hk hl e he hb
  by_cases hjk : j = k
  · subst hjk
    obtain ⟨_, o, ho, hall⟩ := mem_ready.1 hj
    obtain rfl : o = ok := Option.some.inj (ho.symm.trans hk)
    exact getD_set_true (hall e he hb)
  · rw [getD_set_ne false hjk] at hl
    exact getD_set_true (hcl k ok hk hl e he hb)
theorem getD_swap {listed : Array Bool} {i : Nat} (h : listed.getD i true = false) : listed.getD i false = false := by
  rcases Nat.lt_or_ge i listed.size with h' | h'
  · simp [h'] at h ⊢; exact h
  · simp [Array.getElem?_eq_none h']
/-- those that are left of the first ones -/
structure Left (md : Region.Mode) (ops : Array Oper) (k1 : Nat) (listed : Array Bool) (R : List Nat) : Prop where
  cl : Cl md ops listed
  nd : R.Nodup
  mem : ∀ j, j ∈ R ↔ (j < k1 ∧ listed.getD j true = false)
theorem Left.set {k1 j : Nat} {listed : Array Bool} {R : List Nat} (h : Left md ops k1 listed R) (hj : j ∈ Region.ready md ops listed) : Left md ops k1 (listed.setIfInBounds j true) (R.erase j) := by
  refine ⟨cl_set h.cl hj, h.nd.erase j, fun i => ?_⟩
  rw [h.nd.mem_erase_iff, h.mem]
  have h0 := (mem_ready.1 hj).1
  by_cases hij : i = j
  · subst hij
    have : i < listed.size := by
      rcases Nat.lt_or_ge i listed.size with h' | h'
      · exact h'
      · simp [Array.getElem?_eq_none h'] at h0
    simp [this]
  · rw [getD_set_ne true (Ne.symm hij)]
    simp [hij]
/-- the last ones wait for all of the first ones -/
def waitB (md : Region.Mode) (ops : Array Oper) (k1 : Nat) (listed : Array Bool) : Bool :=
  (List.range ops.size).all fun j => decide (j < k1) || (List.range k1).all fun i => listed.getD i true || reachB md ops ops.size j i
theorem only_first {k1 : Nat} {listed0 listed : Array Bool} {R : List Nat} (hB : waitB md ops k1 listed0 = true) (h0 : ∀ i, listed.getD i true = false → listed0.getD i true = false) (h : Left md ops k1 listed R) {i : Nat} (hi : i ∈ R) {j : Nat} (hj : j ∈ Region.ready md ops listed) : j ∈ R := by
  obtain ⟨hju, oj, hoj, hall⟩ := mem_ready.1 hj
  rw [h.mem]
  refine ⟨?_, hju⟩
  rcases Nat.lt_or_ge j k1 with a | a
  · exact a
  · unfold waitB at hB
    rw [List.all_eq_true] at hB
    have h1 := hB j (List.mem_range.2 (Array.getElem?_eq_some_iff.1 hoj).1)
    have hik := (h.mem i).1 hi
    rw [decide_eq_false (by omega), Bool.false_or, List.all_eq_true] at h1
    have h2 := h1 i (List.mem_range.2 hik.1)
    rw [h0 i hik.2, Bool.false_or] at h2
    have := reach_listed h.cl _ j i oj hoj hall h2
    rw [getD_swap hik.2] at this
    cases this
theorem anyT_first {T : Array Bool → Act → Prop} {k1 i : Nat} {oi : Oper} {v : Value} {listed0 : Array Bool} (hB : waitB md ops k1 listed0 = true) (hi : ops[i]? = some oi) (hsel : ∀ (j : Nat) (o : Oper) cs b, ops[j]? = some o → o.op ≠ .select cs b) :
    ∀ (fuel : Nat) (listed : Array Bool) (a : Act) (R : List Nat), (∀ i, listed.getD i true = false → listed0.getD i true = false) → Left md ops k1 listed R → R.length = fuel + 1 → i ∈ R →
      (∀ j oj, ops[j]? = some oj → j ≠ i → listed.getD j true = false → (∀ e ∈ oj.after, Region.binds md e = true → e.on ≠ i) → oi.apart ops oj = true) →
      i ∈ Region.ready md ops listed → YieldsIn P ops C oi v a →
      wpAnyT P md ops C T fuel (listed.setIfInBounds i true) (a.put oi.dst v) → wpAnyT P md ops C T (fuel + 1) listed a := by
  intro fuel
  induction fuel with
  | zero =>
    intro listed a R h0 hL hR hiR _ hr hy H
    refine ⟨fun h => (by rw [h] at hr; cases hr), fun j hj => ?_⟩
    have hjR := only_first hB h0 hL hiR hj
    have hji : j = i := by
      match R, hR with
      | [x], _ => rw [List.mem_singleton] at hjR hiR; rw [hjR, hiR]
    subst hji
    exact hy.qOp hi H
  | succ fuel ih =>
    intro listed a R h0 hL hR hiR hfree hr hy H
    refine ⟨fun h => (by rw [h] at hr; cases hr), fun j hj => ?_⟩
    by_cases hji : j = i
    · subst hji; exact hy.qOp hi H
    · have hjR := only_first hB h0 hL hiR hj
      have h1 := H.2 j (ready_mono hj hji)
      obtain ⟨hjun, oj, hoj, hall⟩ := mem_ready.1 hj
      have hnot : ∀ e ∈ oj.after, Region.binds md e = true → e.on ≠ i := fun e he hb heq => by
        have h1 := hall e he hb
        have h0 := (mem_ready.1 hr).1
        rw [heq] at h1
        rcases Nat.lt_or_ge i listed.size with h' | h'
        · simp [h'] at h0 h1; rw [h0] at h1; cases h1
        · simp [Array.getElem?_eq_none h'] at h1
      have h2 := qOp_put hoj (hfree j oj hoj hji hjun hnot) (fun cs b => hsel i oi cs b hi) (fun cs b => hsel j oj cs b hoj) hy h1
      have hfree' : ∀ k ok, ops[k]? = some ok → k ≠ i → (listed.setIfInBounds j true).getD k true = false →
          (∀ e ∈ ok.after, Region.binds md e = true → e.on ≠ i) → oi.apart ops ok = true := fun k ok hk hki hun hno => by
        refine hfree k ok hk hki ?_ hno
        by_cases hjk : j = k
        · subst hjk; exact hjun
        · rw [getD_set_ne true hjk] at hun; exact hun
      have h0' : ∀ k, (listed.setIfInBounds j true).getD k true = false → listed0.getD k true = false := fun k hk => by
        refine h0 k ?_
        by_cases hjk : j = k
        · subst hjk; exact hjun
        · rw [getD_set_ne true hjk] at hk; exact hk
      refine qOp_mono (fun a' h3 => ih (listed.setIfInBounds j true) a' (R.erase j) h0' (hL.set hj) (by rw [List.length_erase_of_mem hjR, hR]; rfl) (by rw [hL.nd.mem_erase_iff]; exact ⟨Ne.symm hji, hiR⟩) hfree' (ready_mono hr (Ne.symm hji)) h3.1 ?_) h2
      rw [Array.setIfInBounds_comm _ _ hji]
      exact h3.2
def preFrom (md : Region.Mode) (ops : Array Oper) : Nat → Nat → Array Bool → Bool
  | 0, _, _ => true
  | fuel + 1, k, listed => (Region.ready md ops listed).contains k && Region.free md ops listed k && preFrom md ops fuel (k + 1) (listed.setIfInBounds k true)
def listedAfter : Nat → Nat → Array Bool → Array Bool
  | 0, _, listed => listed
  | n + 1, k, listed => listedAfter n (k + 1) (listed.setIfInBounds k true)
theorem anyT_lex {T : Array Bool → Act → Prop} {k1 : Nat} {listed0 : Array Bool} (hB : waitB md ops k1 listed0 = true) (hs : Region.noSelect ops = true) : ∀ (l : List Oper) (k : Nat) (listed : Array Bool) (a : Act) (R : List Nat), (∀ j, j < l.length → l[j]? = ops[k + j]?) →
    (∀ i, listed.getD i true = false → listed0.getD i true = false) → Left md ops k1 listed R → R.length = l.length → k + l.length = k1 →
    preFrom md ops l.length k listed = true → wpQuiet P ops C (fun a' => T (listedAfter l.length k listed) a') l a → wpAnyT P md ops C T l.length listed a
  | [], _, _, _, _, _, _, _, _, _, _, h => h
  | o :: l, k, listed, a, R, hl, h0, hL, hR, hk, hP, h => by
    have hk0 : ops[k]? = some o := by simpa using (hl 0 (by simp)).symm
    simp only [List.length_cons, preFrom, Bool.and_eq_true] at hP
    obtain ⟨⟨hr, hf⟩, hP'⟩ := hP
    have hr' : k ∈ Region.ready md ops listed := by simpa using hr
    have hst : qOp P ops C k (wpQuiet P ops C (fun a' => T (listedAfter (l.length + 1) k listed) a') l) a := by unfold qOp; simp only [hk0]; exact h
    obtain ⟨v, hy, hK⟩ := yieldsIn_of_qOp hk0 hst
    have hkR : k ∈ R := by rw [hL.mem]; simp only [List.length_cons] at hk; exact ⟨by omega, (mem_ready.1 hr').1⟩
    have hun := (mem_ready.1 hr').1
    refine anyT_first hB hk0 (Region.noSelect_spec hs) l.length listed a R h0 hL hR hkR (Region.free_spec hk0 hf) hr' hy ?_
    refine anyT_lex hB hs l (k + 1) _ _ (R.erase k) (fun j hj => ?_) (fun i hi => h0 i ?_) (hL.set hr') (by rw [List.length_erase_of_mem hkR, hR]; rfl) (by simp only [List.length_cons] at hk; omega) hP' hK
    · have := hl (j + 1) (by simp; omega)
      rw [show k + 1 + j = k + (j + 1) by omega]
      simpa using this
    · by_cases hki : k = i
      · subst hki; exact hun
      · rw [getD_set_ne true hki] at hi; exact hi
/-- the last ones come up one behind the other -/
def lineFrom (md : Region.Mode) (ops : Array Oper) : Nat → Nat → Array Bool → Bool
  | 0, _, listed => (Region.ready md ops listed).isEmpty
  | fuel + 1, k, listed => (Region.ready md ops listed == [k]) && lineFrom md ops fuel (k + 1) (listed.setIfInBounds k true)
theorem any_of_line : ∀ (l : List Oper) (k : Nat) (listed : Array Bool) (a : Act) (w : World), (∀ j, j < l.length → l[j]? = ops[k + j]?) → lineFrom md ops l.length k listed = true → wpList P ops Q l a w → wpAny P md ops Q l.length listed a w
  | [], _, _, _, _, _, hB, h => ⟨by simpa [lineFrom] using hB, h⟩
  | o :: l, k, listed, a, w, hl, hB, h => by
    have hk0 : ops[k]? = some o := by simpa using (hl 0 (by simp)).symm
    simp only [List.length_cons, lineFrom, Bool.and_eq_true, beq_iff_eq] at hB
    obtain ⟨hr, hB'⟩ := hB
    refine ⟨fun h0 => (by rw [hr] at h0; cases h0), fun i hi => ?_⟩
    rw [hr, List.mem_singleton] at hi
    subst hi
    have ih : ∀ a w, wpList P ops Q l a w → wpAny P md ops Q l.length (listed.setIfInBounds i true) a w := fun a w h => any_of_line l (i + 1) _ a w (fun j hj => by
      have := hl (j + 1) (by simp; omega)
      rw [show i + 1 + j = i + (j + 1) by omega]
      simpa using this) hB' h
    unfold wpOp
    simp only [hk0]
    unfold wpList at h
    split
    · rename_i hw
      rw [if_pos hw] at h
      exact h.imp (Oper.wp_mono ih) id
    · rename_i hw
      rw [if_neg hw] at h
      exact ih _ _ h
end
def thenB (ops : Array Oper) (k n m : Nat) (listed : Array Bool) : Bool :=
  Region.noSelect ops && waitB .any ops (k + n) listed && preFrom .any ops n k listed && lineFrom .any ops m (k + n) (listedAfter n k listed) && (listed.size == ops.size) &&
  (List.range ops.size).all (fun j => listed.getD j false == decide (j < k)) && (List.range k).all (fun j => match ops[j]? with | none => false | some o => o.after.all fun e => decide (e.on < k))
theorem left0 {ops : Array Oper} {k n m : Nat} {listed : Array Bool} (hB : thenB ops k n m listed = true) (hz : k + n ≤ ops.size) : Left .any ops (k + n) listed (List.range' k n) := by
  simp only [thenB, Bool.and_eq_true, beq_iff_eq, List.all_eq_true, List.mem_range] at hB
  obtain ⟨⟨⟨_, hsz⟩, hall⟩, hdn⟩ := hB
  have at_ : ∀ j, listed.getD j false = decide (j < k) := fun j => by
    rcases Nat.lt_or_ge j ops.size with a | a
    · exact hall j a
    · rw [decide_eq_false (by omega)]
      simp [Array.getElem?_eq_none (show listed.size ≤ j by omega)]
  refine ⟨fun j oj hj hl e he _ => ?_, ?_, fun j => ?_⟩
  · rw [at_, decide_eq_true_eq] at hl
    have := hdn j hl
    simp only [hj, Array.all_eq_true_iff_forall_mem, decide_eq_true_eq] at this
    rw [at_, decide_eq_true (this e he)]
  · exact List.nodup_range'
  · rw [List.mem_range'_1]
    constructor
    · rintro ⟨h0, hi⟩
      refine ⟨hi, ?_⟩
      have h1 := at_ j
      rw [decide_eq_false (by omega)] at h1
      have hlt : j < listed.size := by omega
      simp [hlt] at h1 ⊢
      exact h1
    · rintro ⟨h1, h2⟩
      have h3 := getD_swap h2
      rw [at_, decide_eq_false_iff_not] at h3
      exact ⟨by omega, h1⟩
/-- from where the first k have come up -/
theorem any_calm_then {P : Program} {Q : Exit → Act → World → Prop} {a : Act} {w W : World} {l : List Oper} {listed : Array Bool} (k n m : Nat) (hl : l.length = k + n + m) (hB : thenB l.toArray k n m listed = true) (hW : Below w.heap.size w W)
    (h : wpQuiet P l.toArray (fun w' => ∃ g, w' = above w g) (fun a' => ∀ w', Below w.heap.size w w' → wpList P l.toArray Q (l.drop (k + n)) a' w') ((l.drop k).take n) a) : wpAny P .any l.toArray Q (m + n) listed a W := by
  have hB' := hB
  simp only [thenB, Bool.and_eq_true] at hB'
  obtain ⟨⟨⟨⟨⟨⟨hs, hw⟩, hp⟩, hln⟩, _⟩, _⟩, _⟩ := hB'
  have hlen : ((l.drop k).take n).length = n := by rw [List.length_take, List.length_drop]; omega
  refine any_of_T (C := fun w' => ∃ g, w' = above w g) n listed a W ⟨W, (above_of hW).symm⟩ ?_
  have := anyT_lex (P := P) (C := fun w' => ∃ g, w' = above w g) (T := fun li a' => ∀ w', (∃ g, w' = above w g) → wpAny P .any l.toArray Q m li a' w') (k1 := k + n) (listed0 := listed) hw hs ((l.drop k).take n) k listed a (List.range' k n)
    (fun j hj => by rw [hlen] at hj; rw [List.getElem?_take, if_pos hj, List.getElem?_drop]; simp) (fun i hi => hi) (left0 hB (by simp; omega)) (by simp [hlen]) (by rw [hlen]) (by rw [hlen]; exact hp) ?_
  · rw [hlen] at this; exact this
  · have mono : ∀ (l' : List Oper) (a' : Act), wpQuiet P l.toArray (fun w' => ∃ g, w' = above w g) (fun a' => ∀ w', Below w.heap.size w w' → wpList P l.toArray Q (l.drop (k + n)) a' w') l' a' →
        wpQuiet P l.toArray (fun w' => ∃ g, w' = above w g) (fun a' => ∀ w', (∃ g, w' = above w g) → wpAny P .any l.toArray Q m (listedAfter ((l.drop k).take n).length k listed) a' w') l' a' := by
      intro l'
      induction l' with
      | nil =>
        intro a' h w' ⟨g, hg⟩
        subst hg
        have h1 := h _ (below_above w g)
        have hdl : (l.drop (k + n)).length = m := by rw [List.length_drop]; omega
        have h2 := any_of_line (md := .any) (l.drop (k + n)) (k + n) (listedAfter n k listed) a' _ (fun j hj => by rw [List.getElem?_drop]; simp) (by rw [hdl]; exact hln) h1
        rw [hdl] at h2
        rw [hlen]
        exact h2
      | cons o rest ih =>
        intro a' h
        simp only [wpQuiet] at h ⊢
        split at h
        · rename_i hw; rw [if_pos hw]; exact Oper.quiet_mono ih h
        · rename_i hw; rw [if_neg hw]; exact ih _ h
    exact mono _ _ h
theorem wp_calm_then {P : Program} {id : Nat} {Q : Exit → Act → World → Prop} {a : Act} {w : World} {l : List Oper} (n m : Nat) (hm : P.follows .mixedOrders = true) (hl : l.length = n + m) (hB : thenB l.toArray 0 n m (Array.replicate (n + m) false) = true)
    (h : wpQuiet P l.toArray (fun w' => ∃ g, w' = above w g) (fun a' => ∀ w', Below w.heap.size w w' → wpList P l.toArray Q (l.drop n) a' w') (l.take n) a) : (Code.region id l.toArray true).wp P Q a w := by
  refine wp_region_any hm ?_
  have := any_calm_then (P := P) (Q := Q) (a := a) (w := w) (W := w.drew) (l := l) (listed := Array.replicate (n + m) false) 0 n m (by omega) hB (Below.refl _ _).drew (by simpa using h)
  have e : l.toArray.size = m + n := by simp; omega
  rw [e]
  rw [Nat.add_comm n m] at this
  exact this
/-- the first operation, which only moves a value, comes first -/
theorem wp_calm_then1 {P : Program} {id : Nat} {Q : Exit → Act → World → Prop} {a : Act} {w : World} {o : Oper} {v : Value} {l : List Oper} (n m : Nat) (hm : P.follows .mixedOrders = true) (hl : l.length = n + m) (hB : thenB (o :: l).toArray 1 n m ((Array.replicate (1 + n + m) false).setIfInBounds 0 true) = true)
    (hB2 : (Region.noSelect (o :: l).toArray && Region.free .any (o :: l).toArray (Array.replicate (1 + n + m) false) 0 && (Region.ready .any (o :: l).toArray (Array.replicate (1 + n + m) false)).contains 0) = true)
    (hQ : ∀ c a w, Q (.panic c) (a.put o.dst v) w → Q (.panic c) a w) (hy : Yields P (o :: l).toArray o v a)
    (h : wpQuiet P (o :: l).toArray (fun w' => ∃ g, w' = above w g) (fun a' => ∀ w', Below w.heap.size w w' → wpList P (o :: l).toArray Q (l.drop n) a' w') (l.take n) (a.put o.dst v)) : (Code.region id (o :: l).toArray true).wp P Q a w := by
  refine wp_region_any hm ?_
  simp only [Bool.and_eq_true] at hB2
  have e : (o :: l).toArray.size = m + n + 1 := by simp; omega
  rw [e]
  have e2 : 1 + n + m = m + n + 1 := by omega
  rw [e2] at hB hB2
  refine wpAny_take (i := 0) (oi := o) (v := v) (by simp) hB2.1.1 hB2.1.2 hB2.2 hQ hy ?_
  refine any_calm_then (P := P) (Q := Q) (w := w) (W := w.drew) (l := o :: l) 1 n m (by simp; omega) hB (Below.refl _ _).drew ?_
  simpa [Nat.add_comm 1 n] using h
end Lx
end Go.Proofs.YtomccgodfimaiaaGreatDoor
namespace Go.Proofs.YtomccgodfimaiaaGreatDoor
open Go Go.RowKit
set_option linter.unusedVariables false
section
variable {P : Program} {ops : Array Oper} {md : Region.Mode} {C : World → Prop} {Q : Exit → Act → World → Prop}
/-- whatever order is picked for so many operations; then this -/
def wpAnyT (P : Program) (md : Region.Mode) (ops : Array Oper) (C : World → Prop) (T : Array Bool → Act → Prop) : Nat → Array Bool → Act → Prop
  | 0, listed, a => T listed a
  | fuel + 1, listed, a => Region.ready md ops listed ≠ [] ∧ ∀ i ∈ Region.ready md ops listed, qOp P ops C i (wpAnyT P md ops C T fuel (listed.setIfInBounds i true)) a
theorem any_of_T {m : Nat} : ∀ (fuel : Nat) (listed : Array Bool) (a : Act) (w : World), C w →
    wpAnyT P md ops C (fun l a => ∀ w, C w → wpAny P md ops Q m l a w) fuel listed a → wpAny P md ops Q (m + fuel) listed a w
  | 0, _, _, w, hw, h => h w hw
  | fuel + 1, _, _, _, hw, h => ⟨fun h0 => absurd h0 h.1, fun i hi => wpOp_of_qOp hw (fun a' w' hw' hk => any_of_T fuel _ a' w' hw' hk) (h.2 i hi)⟩
/-- what is listed has all listed that it waits for -/
def Cl (md : Region.Mode) (ops : Array Oper) (listed : Array Bool) : Prop :=
  ∀ (j : Nat) oj, ops[j]? = some oj → listed.getD j false = true → ∀ e ∈ oj.after, Region.binds md e = true → listed.getD e.on false = true
def reachB (md : Region.Mode) (ops : Array Oper) : Nat → Nat → Nat → Bool
  | 0, _, _ => false
  | f + 1, j, i => match ops[j]? with
    | none => false
    | some o => o.after.any fun e => Region.binds md e && (e.on == i || reachB md ops f e.on i)
theorem reach_listed {listed : Array Bool} (hcl : Cl md ops listed) : ∀ (f j i : Nat) (oj : Oper), ops[j]? = some oj → (∀ e ∈ oj.after, Region.binds md e = true → listed.getD e.on false = true) → reachB md ops f j i = true → listed.getD i false = true
  | 0, _, _, _, _, _, h => by cases h
  | f + 1, j, i, oj, hj, ha, h => by
    simp only [reachB, hj] at h
    obtain ⟨e, he, hb⟩ := Array.any_eq_true'.1 h
    simp only [Bool.and_eq_true, Bool.or_eq_true, beq_iff_eq] at hb
    have h1 := ha e he hb.1
    rcases hb.2 with h2 | h2
    · rw [← h2]; exact h1
    · cases ho : ops[e.on]? with
      | none =>
        cases f with
        | zero => cases h2
        | succ f => simp [reachB, ho] at h2
      | some o => exact reach_listed hcl f e.on i o ho (hcl e.on o ho h1) h2
theorem cl_set {listed : Array Bool} {j : Nat} (hcl : Cl md ops listed) (hj : j ∈ Region.ready md ops listed) : Cl md ops (listed.setIfInBounds j true) := by
  intro k ok hk hl e he hb
  by_cases hjk : j = k
  · subst hjk
    obtain ⟨_, o, ho, hall⟩ := mem_ready.1 hj
    obtain rfl : o = ok := Option.some.inj (ho.symm.trans hk)
    exact getD_set_true (hall e he hb)
  · rw [getD_set_ne false hjk] at hl
    exact getD_set_true (hcl k ok hk hl e he hb)
theorem getD_swap {listed : Array Bool} {i : Nat} (h : listed.getD i true = false) : listed.getD i false = false := by
  rcases Nat.lt_or_ge i listed.size with h' | h'
  · simp [h'] at h ⊢; exact h
  · simp [Array.getElem?_eq_none h']
/-- those that are left of the first ones -/
structure Rem (md : Region.Mode) (ops : Array Oper) (is : List Nat) (listed : Array Bool) (R : List Nat) : Prop where
  cl : Cl md ops listed
  nd : R.Nodup
  mem : ∀ j, j ∈ R ↔ (j ∈ is ∧ listed.getD j true = false)
theorem Rem.set {is : List Nat} {j : Nat} {listed : Array Bool} {R : List Nat} (h : Rem md ops is listed R) (hj : j ∈ Region.ready md ops listed) : Rem md ops is (listed.setIfInBounds j true) (R.erase j) := by
  refine ⟨cl_set h.cl hj, h.nd.erase j, fun i => ?_⟩
  rw [h.nd.mem_erase_iff, h.mem]
  have h0 := (mem_ready.1 hj).1
  by_cases hij : i = j
  · subst hij
    have : i < listed.size := by
      rcases Nat.lt_or_ge i listed.size with h' | h'
      · exact h'
      · simp [Array.getElem?_eq_none h'] at h0
    simp [this]
  · rw [getD_set_ne true (Ne.symm hij)]
    simp [hij]
/-- the last ones wait for all of the first ones -/
def waitB (md : Region.Mode) (ops : Array Oper) (is : List Nat) (listed : Array Bool) : Bool :=
  (List.range ops.size).all fun j => is.contains j || listed.getD j true || is.all fun i => listed.getD i true || reachB md ops ops.size j i
theorem only_first {is : List Nat} {listed0 listed : Array Bool} {R : List Nat} (hB : waitB md ops is listed0 = true) (h0 : ∀ i, listed.getD i true = false → listed0.getD i true = false) (h : Rem md ops is listed R) {i : Nat} (hi : i ∈ R) {j : Nat} (hj : j ∈ Region.ready md ops listed) : j ∈ R := by
  obtain ⟨hju, oj, hoj, hall⟩ := mem_ready.1 hj
  rw [h.mem]
  refine ⟨?_, hju⟩
  by_cases a : j ∈ is
  · exact a
  · unfold waitB at hB
    rw [List.all_eq_true] at hB
    have h1 := hB j (List.mem_range.2 (Array.getElem?_eq_some_iff.1 hoj).1)
    have hik := (h.mem i).1 hi
    rw [show is.contains j = false by simpa using a, h0 j hju, Bool.false_or, Bool.false_or, List.all_eq_true] at h1
    have h2 := h1 i hik.1
    rw [h0 i hik.2, Bool.false_or] at h2
    have := reach_listed h.cl _ j i oj hoj hall h2
    rw [getD_swap hik.2] at this
    cases this
theorem anyT_first {T : Array Bool → Act → Prop} {is : List Nat} {i : Nat} {oi : Oper} {v : Value} {listed0 : Array Bool} (hB : waitB md ops is listed0 = true) (hi : ops[i]? = some oi) (hsel : ∀ (j : Nat) (o : Oper) cs b, ops[j]? = some o → o.op ≠ .select cs b) :
    ∀ (fuel : Nat) (listed : Array Bool) (a : Act) (R : List Nat), (∀ i, listed.getD i true = false → listed0.getD i true = false) → Rem md ops is listed R → R.length = fuel + 1 → i ∈ R →
      (∀ j oj, ops[j]? = some oj → j ≠ i → listed.getD j true = false → (∀ e ∈ oj.after, Region.binds md e = true → e.on ≠ i) → oi.apart ops oj = true) →
      i ∈ Region.ready md ops listed → YieldsIn P ops C oi v a →
      wpAnyT P md ops C T fuel (listed.setIfInBounds i true) (a.put oi.dst v) → wpAnyT P md ops C T (fuel + 1) listed a := by
  intro fuel
  induction fuel with
  | zero =>
    intro listed a R h0 hL hR hiR _ hr hy H
    refine ⟨fun h => (by rw [h] at hr; cases hr), fun j hj => ?_⟩
    have hjR := only_first hB h0 hL hiR hj
    have hji : j = i := by
      match R, hR with
      | [x], _ => rw [List.mem_singleton] at hjR hiR; rw [hjR, hiR]
    subst hji
    exact hy.qOp hi H
  | succ fuel ih =>
    intro listed a R h0 hL hR hiR hfree hr hy H
    refine ⟨fun h => (by rw [h] at hr; cases hr), fun j hj => ?_⟩
    by_cases hji : j = i
    · subst hji; exact hy.qOp hi H
    · have hjR := only_first hB h0 hL hiR hj
      have h1 := H.2 j (ready_mono hj hji)
      obtain ⟨hjun, oj, hoj, hall⟩ := mem_ready.1 hj
      have hnot : ∀ e ∈ oj.after, Region.binds md e = true → e.on ≠ i := fun e he hb heq => by
        have h1 := hall e he hb
        have h0 := (mem_ready.1 hr).1
        rw [heq] at h1
        rcases Nat.lt_or_ge i listed.size with h' | h'
        · simp [h'] at h0 h1; rw [h0] at h1; cases h1
        · simp [Array.getElem?_eq_none h'] at h1
      have h2 := qOp_put hoj (hfree j oj hoj hji hjun hnot) (fun cs b => hsel i oi cs b hi) (fun cs b => hsel j oj cs b hoj) hy h1
      have hfree' : ∀ k ok, ops[k]? = some ok → k ≠ i → (listed.setIfInBounds j true).getD k true = false →
          (∀ e ∈ ok.after, Region.binds md e = true → e.on ≠ i) → oi.apart ops ok = true := fun k ok hk hki hun hno => by
        refine hfree k ok hk hki ?_ hno
        by_cases hjk : j = k
        · subst hjk; exact hjun
        · rw [getD_set_ne true hjk] at hun; exact hun
      have h0' : ∀ k, (listed.setIfInBounds j true).getD k true = false → listed0.getD k true = false := fun k hk => by
        refine h0 k ?_
        by_cases hjk : j = k
        · subst hjk; exact hjun
        · rw [getD_set_ne true hjk] at hk; exact hk
      refine qOp_mono (fun a' h3 => ih (listed.setIfInBounds j true) a' (R.erase j) h0' (hL.set hj) (by rw [List.length_erase_of_mem hjR, hR]; rfl) (by rw [hL.nd.mem_erase_iff]; exact ⟨Ne.symm hji, hiR⟩) hfree' (ready_mono hr (Ne.symm hji)) h3.1 ?_) h2
      rw [Array.setIfInBounds_comm _ _ hji]
      exact h3.2
def preFrom (md : Region.Mode) (ops : Array Oper) : List Nat → Array Bool → Bool
  | [], _ => true
  | k :: is, listed => (Region.ready md ops listed).contains k && Region.free md ops listed k && preFrom md ops is (listed.setIfInBounds k true)
def after : List Nat → Array Bool → Array Bool
  | [], listed => listed
  | k :: is, listed => after is (listed.setIfInBounds k true)
def pick (ops : Array Oper) (is : List Nat) : List Oper := is.filterMap fun i => ops[i]?
theorem pick_cons {k : Nat} {is : List Nat} {o : Oper} (h : ops[k]? = some o) : pick ops (k :: is) = o :: pick ops is := by simp [pick, h]
theorem anyT_lex {T : Array Bool → Act → Prop} {all : List Nat} {listed0 : Array Bool} (hB : waitB md ops all listed0 = true) (hs : Region.noSelect ops = true) : ∀ (is : List Nat) (listed : Array Bool) (a : Act) (R : List Nat),
    (∀ i, listed.getD i true = false → listed0.getD i true = false) → Rem md ops all listed R → R.length = is.length → (∀ i ∈ is, i ∈ all) →
    preFrom md ops is listed = true → wpQuiet P ops C (fun a' => T (after is listed) a') (pick ops is) a → wpAnyT P md ops C T is.length listed a
  | [], _, _, _, _, _, _, _, _, h => h
  | k :: is, listed, a, R, h0, hL, hR, hk, hP, h => by
    simp only [preFrom, Bool.and_eq_true] at hP
    obtain ⟨⟨hr, hf⟩, hP'⟩ := hP
    have hr' : k ∈ Region.ready md ops listed := by simpa using hr
    obtain ⟨hun, o, hk0, _⟩ := mem_ready.1 hr'
    rw [pick_cons hk0] at h
    have hst : qOp P ops C k (wpQuiet P ops C (fun a' => T (after (k :: is) listed) a') (pick ops is)) a := by unfold qOp; simp only [hk0]; exact h
    obtain ⟨v, hy, hK⟩ := yieldsIn_of_qOp hk0 hst
    have hkR : k ∈ R := by rw [hL.mem]; exact ⟨hk k (List.mem_cons_self ..), hun⟩
    refine anyT_first hB hk0 (Region.noSelect_spec hs) is.length listed a R h0 hL hR hkR (Region.free_spec hk0 hf) hr' hy ?_
    refine anyT_lex hB hs is _ _ (R.erase k) (fun i hi => h0 i ?_) (hL.set hr') (by rw [List.length_erase_of_mem hkR, hR]; rfl) (fun i hi => hk i (List.mem_cons_of_mem _ hi)) hP' hK
    by_cases hki : k = i
    · subst hki; exact hun
    · rw [getD_set_ne true hki] at hi; exact hi
/-- the last ones come up one behind the other -/
def lineFrom (md : Region.Mode) (ops : Array Oper) : List Nat → Array Bool → Bool
  | [], listed => (Region.ready md ops listed).isEmpty
  | k :: js, listed => (Region.ready md ops listed == [k]) && lineFrom md ops js (listed.setIfInBounds k true)
theorem any_of_line : ∀ (js : List Nat) (listed : Array Bool) (a : Act) (w : World), lineFrom md ops js listed = true → wpList P ops Q (pick ops js) a w → wpAny P md ops Q js.length listed a w
  | [], _, _, _, hB, h => ⟨by simpa [lineFrom] using hB, h⟩
  | k :: js, listed, a, w, hB, h => by
    simp only [lineFrom, Bool.and_eq_true, beq_iff_eq] at hB
    obtain ⟨hr, hB'⟩ := hB
    obtain ⟨_, o, hk0, _⟩ := mem_ready.1 (show k ∈ Region.ready md ops listed by rw [hr]; exact List.mem_singleton.2 rfl)
    rw [pick_cons hk0] at h
    refine ⟨fun h0 => (by rw [hr] at h0; cases h0), fun i hi => ?_⟩
    rw [hr, List.mem_singleton] at hi
    subst hi
    have ih : ∀ a w, wpList P ops Q (pick ops js) a w → wpAny P md ops Q js.length (listed.setIfInBounds i true) a w := fun a w h => any_of_line js _ a w hB' h
    unfold wpOp
    simp only [hk0]
    unfold wpList at h
    split
    · rename_i hw
      rw [if_pos hw] at h
      exact h.imp (Oper.wp_mono ih) id
    · rename_i hw
      rw [if_neg hw] at h
      exact ih _ _ h
end
def thenB (ops : Array Oper) (is js : List Nat) (listed : Array Bool) : Bool :=
  Region.noSelect ops && waitB .any ops is listed && preFrom .any ops is listed && lineFrom .any ops js (after is listed) && is.all (fun i => !listed.getD i true) && decide is.Nodup &&
  (List.range ops.size).all (fun j => !listed.getD j false || match ops[j]? with | none => false | some o => o.after.all fun e => listed.getD e.on false) && decide (listed.size ≤ ops.size)
theorem rem0 {ops : Array Oper} {is js : List Nat} {listed : Array Bool} (hB : thenB ops is js listed = true) : Rem .any ops is listed is := by
  simp only [thenB, Bool.and_eq_true, List.all_eq_true, List.mem_range, decide_eq_true_eq] at hB
  obtain ⟨⟨⟨⟨_, hun⟩, hnd⟩, hdn⟩, hsz⟩ := hB
  refine ⟨fun j oj hj hl e he _ => ?_, hnd, fun j => ⟨fun h => ⟨h, by simpa using hun j h⟩, fun h => h.1⟩⟩
  have hlt : j < ops.size := (Array.getElem?_eq_some_iff.1 hj).1
  have h1 := hdn j hlt
  simp only [hl, hj, Bool.not_true, Bool.false_or, Array.all_eq_true_iff_forall_mem] at h1
  exact h1 e he
/-- from where some have come up -/
theorem any_calm_then {P : Program} {Q : Exit → Act → World → Prop} {a : Act} {w W : World} {l : List Oper} {listed : Array Bool} (is js : List Nat) (hB : thenB l.toArray is js listed = true) (hW : Below w.heap.size w W)
    (h : wpQuiet P l.toArray (fun w' => ∃ g, w' = above w g) (fun a' => ∀ w', Below w.heap.size w w' → wpList P l.toArray Q (pick l.toArray js) a' w') (pick l.toArray is) a) : wpAny P .any l.toArray Q (js.length + is.length) listed a W := by
  have hB' := hB
  simp only [thenB, Bool.and_eq_true] at hB'
  obtain ⟨⟨⟨⟨⟨⟨⟨hs, hw⟩, hp⟩, hln⟩, _⟩, _⟩, _⟩, _⟩ := hB'
  refine any_of_T (C := fun w' => ∃ g, w' = above w g) is.length listed a W ⟨W, (above_of hW).symm⟩ ?_
  refine anyT_lex (P := P) (C := fun w' => ∃ g, w' = above w g) (T := fun li a' => ∀ w', (∃ g, w' = above w g) → wpAny P .any l.toArray Q js.length li a' w') (all := is) (listed0 := listed) hw hs is listed a is (fun i hi => hi) (rem0 hB) rfl (fun i hi => hi) hp ?_
  have mono : ∀ (l' : List Oper) (a' : Act), wpQuiet P l.toArray (fun w' => ∃ g, w' = above w g) (fun a' => ∀ w', Below w.heap.size w w' → wpList P l.toArray Q (pick l.toArray js) a' w') l' a' →
      wpQuiet P l.toArray (fun w' => ∃ g, w' = above w g) (fun a' => ∀ w', (∃ g, w' = above w g) → wpAny P .any l.toArray Q js.length (after is listed) a' w') l' a' := by
    intro l'
    induction l' with
    | nil =>
      intro a' h w' ⟨g, hg⟩
      subst hg
      exact any_of_line (md := .any) js (after is listed) a' _ hln (h _ (below_above w g))
    | cons o rest ih =>
      intro a' h
      simp only [wpQuiet] at h ⊢
      split at h
      · rename_i hw; rw [if_pos hw]; exact Oper.quiet_mono ih h
      · rename_i hw; rw [if_neg hw]; exact ih _ h
  exact mono _ _ h
theorem wp_calm_then {P : Program} {id : Nat} {Q : Exit → Act → World → Prop} {a : Act} {w : World} {l : List Oper} (is js : List Nat) (hm : P.follows .mixedOrders = true) (hl : l.length = js.length + is.length) (hB : thenB l.toArray is js (Array.replicate l.length false) = true)
    (h : wpQuiet P l.toArray (fun w' => ∃ g, w' = above w g) (fun a' => ∀ w', Below w.heap.size w w' → wpList P l.toArray Q (pick l.toArray js) a' w') (pick l.toArray is) a) : (Code.region id l.toArray true).wp P Q a w := by
  refine wp_region_any hm ?_
  have := any_calm_then (P := P) (Q := Q) (a := a) (w := w) (W := w.drew) (l := l) is js hB (Below.refl _ _).drew h
  have e : l.toArray.size = js.length + is.length := by simp; omega
  rw [e]
  rw [← hl] at this ⊢
  exact this
/-- one operation, which yields in whatever world, comes first -/
theorem wp_calm_then1 {P : Program} {id : Nat} {Q : Exit → Act → World → Prop} {a : Act} {w : World} {l : List Oper} (p : Nat) (o : Oper) (v : Value) (is js : List Nat) (hm : P.follows .mixedOrders = true) (hl : l.length = js.length + is.length + 1) (ho : l.toArray[p]? = some o)
    (hB : thenB l.toArray is js ((Array.replicate l.length false).setIfInBounds p true) = true)
    (hB2 : (Region.noSelect l.toArray && Region.free .any l.toArray (Array.replicate l.length false) p && (Region.ready .any l.toArray (Array.replicate l.length false)).contains p) = true)
    (hQ : ∀ c a w, Q (.panic c) (a.put o.dst v) w → Q (.panic c) a w) (hy : Yields P l.toArray o v a)
    (h : wpQuiet P l.toArray (fun w' => ∃ g, w' = above w g) (fun a' => ∀ w', Below w.heap.size w w' → wpList P l.toArray Q (pick l.toArray js) a' w') (pick l.toArray is) (a.put o.dst v)) : (Code.region id l.toArray true).wp P Q a w := by
  refine wp_region_any hm ?_
  simp only [Bool.and_eq_true] at hB2
  have e : l.toArray.size = js.length + is.length + 1 := by simp; omega
  rw [e]
  rw [hl] at hB hB2
  exact wpAny_take (i := p) (oi := o) (v := v) ho hB2.1.1 hB2.1.2 hB2.2 hQ hy (any_calm_then (P := P) (Q := Q) (w := w) (W := w.drew) (l := l) is js hB (Below.refl _ _).drew h)
end Go.Proofs.YtomccgodfimaiaaGreatDoor
namespace Go.Proofs.YtomccgodfimaiaaGreatDoor
open Go Go.RowKit
set_option linter.unusedVariables false
section
variable {P : Program} {ops : Array Oper} {md : Region.Mode} {C : World → Prop} {Q : Exit → Act → World → Prop} {S : World → Prop}
/-- whatever order is picked; behind those that are not late, S -/
def wpAnyL (P : Program) (md : Region.Mode) (ops : Array Oper) (Q : Exit → Act → World → Prop) (S : World → Prop) (late : List Nat) : Nat → Array Bool → Act → World → Prop
  | 0, listed, a, w => Region.ready md ops listed = [] ∧ Q .normal a w
  | fuel + 1, listed, a, w => (Region.ready md ops listed = [] → Q .normal a w) ∧ ∀ i ∈ Region.ready md ops listed, wpOp P ops Q i (fun a' w' => (i ∉ late → S w') ∧ wpAnyL P md ops Q S late fuel (listed.setIfInBounds i true) a' w') a w
theorem any_of_L {late : List Nat} : ∀ (fuel : Nat) (listed : Array Bool) (a : Act) (w : World), wpAnyL P md ops Q S late fuel listed a w → wpAny P md ops Q fuel listed a w
  | 0, _, _, _, h => h
  | fuel + 1, _, _, _, h => ⟨h.1, fun i hi => wpOp_mono (fun a' w' h' => any_of_L fuel _ a' w' h'.2) (h.2 i hi)⟩
theorem any_of_first {late : List Nat} {i : Nat} {oi : Oper} {v : Value} (hi : ops[i]? = some oi) (hsel : ∀ (j : Nat) (o : Oper) cs b, ops[j]? = some o → o.op ≠ .select cs b)
    (hQ : ∀ c a w, Q (.panic c) (a.put oi.dst v) w → Q (.panic c) a w) (hlate : ∀ j ∈ late, reachB md ops ops.size j i = true) :
    ∀ (fuel : Nat) (listed : Array Bool) (a : Act) (w : World), Cl md ops listed →
      (∀ j oj, ops[j]? = some oj → j ≠ i → listed.getD j true = false → (∀ e ∈ oj.after, Region.binds md e = true → e.on ≠ i) → oi.apart ops oj = true) →
      i ∈ Region.ready md ops listed → YieldsIf P ops S oi v a → S w →
      wpAnyL P md ops Q S late fuel (listed.setIfInBounds i true) (a.put oi.dst v) w → wpAny P md ops Q (fuel + 1) listed a w := by
  intro fuel
  induction fuel with
  | zero =>
    intro listed a w _ _ hr hy hS H
    refine ⟨fun h => (by rw [h] at hr; cases hr), fun j hj => ?_⟩
    by_cases hji : j = i
    · subst hji; exact hy.wpOp hi hS H
    · have := ready_mono hj hji
      rw [H.1] at this
      cases this
  | succ fuel ih =>
    intro listed a w hcl hfree hr hy hS H
    refine ⟨fun h => (by rw [h] at hr; cases hr), fun j hj => ?_⟩
    by_cases hji : j = i
    · subst hji; exact hy.wpOp hi hS (any_of_L _ _ _ _ H)
    · have h1 := H.2 j (ready_mono hj hji)
      obtain ⟨hjun, oj, hoj, hall⟩ := mem_ready.1 hj
      have hnl : j ∉ late := fun hm => by
        have := reach_listed hcl _ j i oj hoj hall (hlate j hm)
        rw [getD_swap (mem_ready.1 hr).1] at this
        cases this
      have hnot : ∀ e ∈ oj.after, Region.binds md e = true → e.on ≠ i := fun e he hb heq => by
        have h1 := hall e he hb
        rw [heq, getD_swap (mem_ready.1 hr).1] at h1
        cases h1
      have h2 := wpOp_putIf hoj (hfree j oj hoj hji hjun hnot) (fun cs b => hsel i oi cs b hi) (fun cs b => hsel j oj cs b hoj) hQ hy h1
      have hfree' : ∀ k ok, ops[k]? = some ok → k ≠ i → (listed.setIfInBounds j true).getD k true = false →
          (∀ e ∈ ok.after, Region.binds md e = true → e.on ≠ i) → oi.apart ops ok = true := fun k ok hk hki hun hno => by
        refine hfree k ok hk hki ?_ hno
        by_cases hjk : j = k
        · subst hjk; exact hjun
        · rw [getD_set_ne true hjk] at hun; exact hun
      refine wpOp_mono (fun a' w' h3 => ih (listed.setIfInBounds j true) a' w' (cl_set hcl hj) hfree' (ready_mono hr (Ne.symm hji)) h3.1 (h3.2.1 hnl) ?_) h2
      rw [Array.setIfInBounds_comm _ _ hji]
      exact h3.2.2
theorem any_of_TL {late : List Nat} {m : Nat} (hCS : ∀ w, C w → S w) : ∀ (fuel : Nat) (listed : Array Bool) (a : Act) (w : World), C w →
    wpAnyT P md ops C (fun l a => ∀ w, C w → wpAnyL P md ops Q S late m l a w) fuel listed a → wpAnyL P md ops Q S late (m + fuel) listed a w
  | 0, _, _, w, hw, h => h w hw
  | fuel + 1, _, _, _, hw, h => ⟨fun h0 => absurd h0 h.1, fun i hi => wpOp_of_qOp hw (fun a' w' hw' hk => ⟨fun _ => hCS _ hw', any_of_TL hCS fuel _ a' w' hw' hk⟩) (h.2 i hi)⟩
theorem L_of_line {late : List Nat} : ∀ (js : List Nat) (listed : Array Bool) (a : Act) (w : World), (∀ j ∈ js, j ∈ late) → lineFrom md ops js listed = true → wpList P ops Q (pick ops js) a w → wpAnyL P md ops Q S late js.length listed a w
  | [], _, _, _, _, hB, h => ⟨by simpa [lineFrom] using hB, h⟩
  | k :: js, listed, a, w, hl, hB, h => by
    simp only [lineFrom, Bool.and_eq_true, beq_iff_eq] at hB
    obtain ⟨hr, hB'⟩ := hB
    obtain ⟨_, o, hk0, _⟩ := mem_ready.1 (show k ∈ Region.ready md ops listed by rw [hr]; exact List.mem_singleton.2 rfl)
    rw [pick_cons hk0] at h
    refine ⟨fun h0 => (by rw [hr] at h0; cases h0), fun i hi => ?_⟩
    rw [hr, List.mem_singleton] at hi
    subst hi
    have ih : ∀ a w, wpList P ops Q (pick ops js) a w → (i ∉ late → S w) ∧ wpAnyL P md ops Q S late js.length (listed.setIfInBounds i true) a w := fun a w h => ⟨fun e => absurd (hl i (List.mem_cons_self ..)) e, L_of_line js _ a w (fun j hj => hl j (List.mem_cons_of_mem _ hj)) hB' h⟩
    unfold wpOp
    simp only [hk0]
    unfold wpList at h
    split
    · rename_i hw
      rw [if_pos hw] at h
      exact h.imp (Oper.wp_mono ih) id
    · rename_i hw
      rw [if_neg hw] at h
      exact ih _ _ h
end
def heldB (ops : Array Oper) (i0 i1 : Nat) (is : List Nat) (j : Nat) (js : List Nat) (L0 : Array Bool) : Bool :=
  Region.free .any ops L0 i0 && (Region.ready .any ops L0).contains i0 && Region.free .any ops (L0.setIfInBounds i0 true) i1 && (Region.ready .any ops (L0.setIfInBounds i0 true)).contains i1 &&
  (js.all fun x => reachB .any ops ops.size x i1) && thenB ops is (j :: js) ((L0.setIfInBounds i0 true).setIfInBounds i1 true) &&
  (List.range ops.size).all (fun x => !(L0.setIfInBounds i0 true).getD x false || match ops[x]? with | none => false | some o => o.after.all fun e => (L0.setIfInBounds i0 true).getD e.on false)
theorem wp_load_then {P : Program} {id : Nat} {Q : Exit → Act → World → Prop} {a : Act} {w : World} {l : List Oper} (S : World → Prop) (i0 : Nat) (o0 : Oper) (v0 : Value) (i1 : Nat) (o1 : Oper) (v1 : Value) (is : List Nat) (j : Nat) (oj : Oper) (js : List Nat) (hm : P.follows .mixedOrders = true) (hl : l.length = js.length + 1 + is.length + 1 + 1)
    (h0 : l.toArray[i0]? = some o0) (h1 : l.toArray[i1]? = some o1) (hj : l.toArray[j]? = some oj) (hB : heldB l.toArray i0 i1 is j js (Array.replicate l.length false) = true)
    (hS : ∀ w', Below w.heap.size w w' → S w') (hQ0 : ∀ c a w, Q (.panic c) (a.put o0.dst v0) w → Q (.panic c) a w) (hy0 : Yields P l.toArray o0 v0 a) (hQ1 : ∀ c a w, Q (.panic c) (a.put o1.dst v1) w → Q (.panic c) a w) (hy1 : YieldsIf P l.toArray S o1 v1 (a.put o0.dst v0))
    (h : wpQuiet P l.toArray (fun w' => ∃ g, w' = above w g) (fun a' => ∀ w', Below w.heap.size w w' → ∀ K : Act → World → Prop, (∀ a w, (S w ∧ wpList P l.toArray Q (pick l.toArray js) a w) → K a w) → if Region.wanted oj (yielded l.toArray a'.tmps) then oj.wp P a' w' K Q else K (a'.put oj.dst undef) w') (pick l.toArray is) ((a.put o0.dst v0).put o1.dst v1)) : (Code.region id l.toArray true).wp P Q a w := by
  refine wp_region_any hm ?_
  have e : l.toArray.size = js.length + 1 + is.length + 1 + 1 := by simp; omega
  rw [e]
  rw [hl] at hB
  simp only [heldB, Bool.and_eq_true, List.all_eq_true, List.mem_range] at hB
  obtain ⟨⟨⟨⟨⟨⟨hf0, hr0⟩, hf1⟩, hr1⟩, hla⟩, hT⟩, hcl⟩ := hB
  have hT' := hT
  simp only [thenB, Bool.and_eq_true] at hT'
  obtain ⟨⟨⟨⟨⟨⟨⟨hs, hw⟩, hp⟩, hln⟩, _⟩, _⟩, _⟩, _⟩ := hT'
  refine wpAny_take (i := i0) (oi := o0) (v := v0) h0 hs hf0 hr0 hQ0 hy0 ?_
  refine any_of_first (S := S) (late := js) h1 (Region.noSelect_spec hs) hQ1 hla _ _ _ _ (fun x ox hx hlx e he _ => ?_) (Region.free_spec h1 hf1) (by simpa using hr1) hy1 (hS _ (Below.refl _ _).drew) ?_
  · have hlt : x < l.toArray.size := (Array.getElem?_eq_some_iff.1 hx).1
    have h2 := hcl x hlt
    simp only [hlx, hx, Bool.not_true, Bool.false_or, Array.all_eq_true_iff_forall_mem] at h2
    exact h2 e he
  refine any_of_TL (C := fun w' => ∃ g, w' = above w g) (m := js.length + 1) (fun w' ⟨g, hg⟩ => by subst hg; exact hS _ (below_above w g)) is.length _ _ _ ⟨w.drew, (above_of (Below.refl _ _).drew).symm⟩ ?_
  refine anyT_lex (P := P) (C := fun w' => ∃ g, w' = above w g) (T := fun li a' => ∀ w', (∃ g, w' = above w g) → wpAnyL P .any l.toArray Q S js (js.length + 1) li a' w') (all := is) hw hs is _ _ is (fun i hi => hi) (rem0 hT) rfl (fun i hi => hi) hp ?_
  have mono : ∀ (l' : List Oper) (a' : Act), wpQuiet P l.toArray (fun w' => ∃ g, w' = above w g) (fun a' => ∀ w', Below w.heap.size w w' → ∀ K : Act → World → Prop, (∀ a w, (S w ∧ wpList P l.toArray Q (pick l.toArray js) a w) → K a w) → if Region.wanted oj (yielded l.toArray a'.tmps) then oj.wp P a' w' K Q else K (a'.put oj.dst undef) w') l' a' →
      wpQuiet P l.toArray (fun w' => ∃ g, w' = above w g) (fun a' => ∀ w', (∃ g, w' = above w g) → wpAnyL P .any l.toArray Q S js (js.length + 1) (after is (((Array.replicate (js.length + 1 + is.length + 1 + 1) false).setIfInBounds i0 true).setIfInBounds i1 true)) a' w') l' a' := by
    intro l'
    induction l' with
    | nil =>
      intro a' h w' ⟨g, hg⟩
      subst hg
      simp only [lineFrom, Bool.and_eq_true, beq_iff_eq] at hln
      obtain ⟨hr, hln'⟩ := hln
      refine ⟨fun h0 => (by rw [hr] at h0; cases h0), fun i hi => ?_⟩
      rw [hr, List.mem_singleton] at hi
      subst hi
      have h2 := h _ (below_above w g) _ (fun a w hh => (⟨fun _ => hh.1, L_of_line js _ a w (fun j hj => hj) hln' hh.2⟩ : (i ∉ js → S w) ∧ wpAnyL P .any l.toArray Q S js js.length _ a w))
      unfold wpOp
      simp only [hj]
      split
      · rename_i hw; rw [if_pos hw] at h2; exact Or.inl h2
      · rename_i hw; rw [if_neg hw] at h2; exact h2
    | cons o rest ih =>
      intro a' h
      simp only [wpQuiet] at h ⊢
      split at h
      · rename_i hw; rw [if_pos hw]; exact Oper.quiet_mono ih h
      · rename_i hw; rw [if_neg hw]; exact ih _ h
  exact mono _ _ h
theorem pick_range {l : List Oper} : ∀ (n a : Nat), a + n ≤ l.length → pick l.toArray (List.range' a n) = (l.drop a).take n
  | 0, a, _ => by simp [pick]
  | n + 1, a, h => by
    have ha : a < l.length := by omega
    rw [List.range'_succ, pick_cons (o := l[a]) (by simp [ha]), pick_range n (a + 1) (by omega), List.drop_eq_getElem_cons ha, List.take_succ_cons]
theorem wp_load_lex {P : Program} {id : Nat} {Q : Exit → Act → World → Prop} {a : Act} {w : World} {o0 o1 oj : Oper} {r tl : List Oper} (S : World → Prop) (v0 v1 : Value) (n m : Nat) (hm : P.follows .mixedOrders = true) (hl : r.length = m + 1 + n) (hr : r.drop n = oj :: tl)
    (hB : heldB (o0 :: o1 :: r).toArray 0 1 (List.range' 2 n) (2 + n) (List.range' (3 + n) m) (Array.replicate (m + 1 + n + 1 + 1) false) = true)
    (hS : ∀ w', Below w.heap.size w w' → S w') (hQ0 : ∀ c a w, Q (.panic c) (a.put o0.dst v0) w → Q (.panic c) a w) (hy0 : Yields P (o0 :: o1 :: r).toArray o0 v0 a) (hQ1 : ∀ c a w, Q (.panic c) (a.put o1.dst v1) w → Q (.panic c) a w) (hy1 : YieldsIf P (o0 :: o1 :: r).toArray S o1 v1 (a.put o0.dst v0))
    (h : wpQuiet P (o0 :: o1 :: r).toArray (fun w' => ∃ g, w' = above w g) (fun a' => ∀ w', Below w.heap.size w w' → ∀ K : Act → World → Prop, (∀ a w, (S w ∧ wpList P (o0 :: o1 :: r).toArray Q tl a w) → K a w) → if Region.wanted oj (yielded (o0 :: o1 :: r).toArray a'.tmps) then oj.wp P a' w' K Q else K (a'.put oj.dst undef) w') (r.take n) ((a.put o0.dst v0).put o1.dst v1)) : (Code.region id (o0 :: o1 :: r).toArray true).wp P Q a w := by
  have hlen : (o0 :: o1 :: r).length = m + 1 + n + 1 + 1 := by simp [hl]
  have e1 : pick (o0 :: o1 :: r).toArray (List.range' 2 n) = r.take n := by rw [pick_range n 2 (by omega)]; rfl
  have e2 : pick (o0 :: o1 :: r).toArray (List.range' (3 + n) m) = tl := by
    rw [pick_range m (3 + n) (by omega), show 3 + n = n + 1 + 1 + 1 by omega, List.drop_succ_cons, List.drop_succ_cons]
    have h2 : r.drop (n + 1) = tl := by rw [← List.tail_drop, hr]; rfl
    rw [h2]
    have h3 : tl.length = m := by
      have := congrArg List.length hr
      simp only [List.length_drop, List.length_cons] at this
      omega
    exact List.take_of_length_le (by omega)
  have e3 : (o0 :: o1 :: r).toArray[2 + n]? = some oj := by
    rw [List.getElem?_toArray, Nat.add_comm 2 n, List.getElem?_cons_succ, List.getElem?_cons_succ]
    have := congrArg List.head? hr
    rwa [List.head?_drop] at this
  refine wp_load_then (l := o0 :: o1 :: r) S 0 o0 v0 1 o1 v1 (List.range' 2 n) (2 + n) oj (List.range' (3 + n) m) hm (by simp [hl]) rfl rfl e3 (by rw [hlen]; exact hB) hS hQ0 hy0 hQ1 hy1 ?_
  rw [e1, e2]
  exact h
end Go.Proofs.YtomccgodfimaiaaGreatDoor
