/- A region that draws its order, that only reads or makes new memory, and of which one call panics: what does not wait for that call is walked once, in the order of the text; the call panics whenever it comes up. No law of the program itself. -/
import Derived.Test.YtomccgodfimaiaaGreatDoorRegs
namespace Go.Proofs.YtomccgodfimaiaaGreatDoor
set_option linter.all false
open Go Go.RowKit
set_option linter.unusedVariables false
section
variable {P : Program} {ops : Array Oper} {md : Region.Mode} {C : World → Prop} {Q : Exit → Act → World → Prop}
/-- a call that panics in each world of the class -/
def Dies (P : Program) (ops : Array Oper) (C : World → Prop) (Q : Exit → Act → World → Prop) (oj : Oper) (a : Act) : Prop :=
  Region.wanted oj (yielded ops a.tmps) = true ∧ ∃ f args, (∀ w, C w → (execOp a.eval oj).run P w = .ok (.enter f args) w) ∧ ∀ w, C w → Calls P f args w fun e w' => ∃ ch, e = .panicked ch ∧ Q (.panic ch) a w'
theorem Dies.op {j : Nat} {oj : Oper} {a : Act} {w : World} {K : Act → World → Prop} (hj : ops[j]? = some oj) (h : Dies P ops C Q oj a) (hw : C w) : wpOp P ops Q j K a w := by
  obtain ⟨h1, f, args, h2, h3⟩ := h
  unfold wpOp
  simp only [hj, h1, if_true]
  left
  unfold Oper.wp
  rw [h2 w hw, Oper.upon_enter]
  refine (h3 w hw).mono ?_
  rintro e w' ⟨ch, rfl, hq⟩
  exact hq
theorem Dies.back {oi oj : Oper} {v : Value} {a : Act} (hap : oi.apart ops oj = true) (hsj : ∀ cs b, oj.op ≠ .select cs b) (hQ : ∀ c a w, Q (.panic c) (a.put oi.dst v) w → Q (.panic c) a w) (h : Dies P ops C Q oj (a.put oi.dst v)) : Dies P ops C Q oj a := by
  obtain ⟨h1, f, args, h2, h3⟩ := h
  obtain ⟨k1, k2, k3⟩ := Oper.apart_spec hap
  rw [wanted_put oj a oi.dst v k1] at h1
  rw [execOp_put oj hsj a oi.dst v k1] at h2
  exact ⟨h1, f, args, h2, fun w hw => (h3 w hw).mono fun e w' ⟨ch, he, hq⟩ => ⟨ch, he, hQ _ _ _ hq⟩⟩
/-- whatever order is picked, till the call that panics -/
def wpAnyX (P : Program) (md : Region.Mode) (ops : Array Oper) (C : World → Prop) (Q : Exit → Act → World → Prop) (j : Nat) (oj : Oper) : Nat → Array Bool → Act → Prop
  | 0, _, _ => False
  | fuel + 1, listed, a => Region.ready md ops listed ≠ [] ∧ (j ∈ Region.ready md ops listed → Dies P ops C Q oj a) ∧ ∀ i ∈ Region.ready md ops listed, i ≠ j → qOp P ops C i (wpAnyX P md ops C Q j oj fuel (listed.setIfInBounds i true)) a
theorem any_of_X {j : Nat} {oj : Oper} (hj : ops[j]? = some oj) {m : Nat} : ∀ (fuel : Nat) (listed : Array Bool) (a : Act) (w : World), C w → wpAnyX P md ops C Q j oj fuel listed a → wpAny P md ops Q (m + fuel) listed a w
  | 0, _, _, _, _, h => h.elim
  | fuel + 1, _, _, _, hw, h => ⟨fun h0 => absurd h0 h.1, fun i hi => by
    by_cases hij : i = j
    · subst hij; exact (h.2.1 hi).op hj hw
    · exact wpOp_of_qOp hw (fun a' w' hw' hk => any_of_X hj fuel _ a' w' hw' hk) (h.2.2 i hi hij)⟩
theorem anyX_first {j i : Nat} {oi oj : Oper} {v : Value} (hj : ops[j]? = some oj) (hi : ops[i]? = some oi) (hij : i ≠ j) (hsel : ∀ (j : Nat) (o : Oper) cs b, ops[j]? = some o → o.op ≠ .select cs b)
    (hQ : ∀ c a w, Q (.panic c) (a.put oi.dst v) w → Q (.panic c) a w) :
    ∀ (fuel : Nat) (listed : Array Bool) (a : Act), (∀ k ok, ops[k]? = some ok → k ≠ i → listed.getD k true = false → (∀ e ∈ ok.after, Region.binds md e = true → e.on ≠ i) → oi.apart ops ok = true) →
      i ∈ Region.ready md ops listed → YieldsIn P ops C oi v a → wpAnyX P md ops C Q j oj fuel (listed.setIfInBounds i true) (a.put oi.dst v) → wpAnyX P md ops C Q j oj (fuel + 1) listed a := by
  intro fuel
  induction fuel with
  | zero => intro _ _ _ _ _ H; exact H.elim
  | succ fuel ih =>
    intro listed a hfree hr hy H
    have hno : ∀ k ok, ops[k]? = some ok → k ∈ Region.ready md ops listed → ∀ e ∈ ok.after, Region.binds md e = true → e.on ≠ i := fun k ok hk hkr e he hb heq => by
      obtain ⟨_, ok', hk', hall⟩ := mem_ready.1 hkr
      obtain rfl : ok = ok' := Option.some.inj (hk.symm.trans hk')
      have h1 := hall e he hb
      have h0 := (mem_ready.1 hr).1
      rw [heq] at h1
      rcases Nat.lt_or_ge i listed.size with h' | h'
      · simp [h'] at h0 h1; rw [h0] at h1; cases h1
      · simp [Array.getElem?_eq_none h'] at h1
    refine ⟨fun h => (by rw [h] at hr; cases hr), fun hjr => ?_, fun k hk hkj => ?_⟩
    · exact (H.2.1 (ready_mono hjr (Ne.symm hij))).back (hfree j oj hj (Ne.symm hij) (mem_ready.1 hjr).1 (hno j oj hj hjr)) (fun cs b => hsel j oj cs b hj) hQ
    · by_cases hki : k = i
      · subst hki; exact hy.qOp hi H
      · have h1 := H.2.2 k (ready_mono hk hki) hkj
        obtain ⟨hkun, ok, hok, hall⟩ := mem_ready.1 hk
        have h2 := qOp_put hok (hfree k ok hok hki hkun (hno k ok hok hk)) (fun cs b => hsel i oi cs b hi) (fun cs b => hsel k ok cs b hok) hy h1
        have hfree' : ∀ q oq, ops[q]? = some oq → q ≠ i → (listed.setIfInBounds k true).getD q true = false → (∀ e ∈ oq.after, Region.binds md e = true → e.on ≠ i) → oi.apart ops oq = true := fun q oq hq hqi hun hn => by
          refine hfree q oq hq hqi ?_ hn
          by_cases hkq : k = q
          · subst hkq; exact hkun
          · rw [getD_set_ne true hkq] at hun; exact hun
        refine qOp_mono (fun a' h3 => ih (listed.setIfInBounds k true) a' hfree' (ready_mono hr (Ne.symm hki)) h3.1 ?_) h2
        rw [Array.setIfInBounds_comm _ _ hki]
        exact h3.2
/-- each of these writes its own slot alone; behind them only the call that panics comes up -/
def dieFrom (md : Region.Mode) (ops : Array Oper) (j : Nat) : List Nat → Array Bool → Bool
  | [], listed => Region.ready md ops listed == [j]
  | k :: is, listed => (Region.ready md ops listed).contains k && Region.free md ops listed k && k != j && dieFrom md ops j is (listed.setIfInBounds k true)
theorem anyX_lex {j : Nat} {oj : Oper} (hj : ops[j]? = some oj) (hs : Region.noSelect ops = true) (hQ : ∀ (o : Oper) v c a w, Q (.panic c) (a.put o.dst v) w → Q (.panic c) a w) : ∀ (is : List Nat) (listed : Array Bool) (a : Act),
    dieFrom md ops j is listed = true → wpQuiet P ops C (fun a' => Dies P ops C Q oj a') (pick ops is) a → wpAnyX P md ops C Q j oj (is.length + 1) listed a
  | [], listed, a, hB, h => by
    have hr : Region.ready md ops listed = [j] := by simpa [dieFrom] using hB
    refine ⟨by rw [hr]; simp, fun _ => h, fun i hi hij => ?_⟩
    rw [hr, List.mem_singleton] at hi
    exact absurd hi hij
  | k :: is, listed, a, hB, h => by
    simp only [dieFrom, Bool.and_eq_true, bne_iff_ne, ne_eq] at hB
    obtain ⟨⟨⟨hr, hf⟩, hkj⟩, hB'⟩ := hB
    have hr' : k ∈ Region.ready md ops listed := by simpa using hr
    obtain ⟨hun, o, hk0, _⟩ := mem_ready.1 hr'
    rw [pick_cons hk0] at h
    have hst : qOp P ops C k (wpQuiet P ops C (fun a' => Dies P ops C Q oj a') (pick ops is)) a := by unfold qOp; simp only [hk0]; exact h
    obtain ⟨v, hy, hK⟩ := yieldsIn_of_qOp hk0 hst
    exact anyX_first hj hk0 hkj (Region.noSelect_spec hs) (fun c a w => hQ o v c a w) _ listed a (Region.free_spec hk0 hf) hr' hy (anyX_lex hj hs hQ is _ _ hB' hK)
end
theorem wp_region_dies {P : Program} {id : Nat} {Q : Exit → Act → World → Prop} {a : Act} {w : World} {l : List Oper} (j : Nat) (oj : Oper) (is : List Nat) (hm : P.follows .mixedOrders = true) (hj : l.toArray[j]? = some oj) (hs : Region.noSelect l.toArray = true)
    (hB : dieFrom .any l.toArray j is (Array.replicate l.length false) = true) (hl : is.length + 1 ≤ l.length) (hQ : ∀ (o : Oper) v c a w, Q (.panic c) (a.put o.dst v) w → Q (.panic c) a w)
    (h : wpQuiet P l.toArray (fun w' => ∃ g, w' = above w g) (fun a' => Dies P l.toArray (fun w' => ∃ g, w' = above w g) Q oj a') (pick l.toArray is) a) : (Code.region id l.toArray true).wp P Q a w := by
  refine wp_region_any hm ?_
  have := any_of_X (md := .any) (m := l.length - (is.length + 1)) hj _ (Array.replicate l.length false) a w.drew ⟨w.drew, (above_of (Below.refl _ _).drew).symm⟩ (anyX_lex hj hs hQ is _ a hB h)
  have e : l.toArray.size = l.length - (is.length + 1) + (is.length + 1) := by simp; omega
  rw [e]
  have e2 : l.length - (is.length + 1) + (is.length + 1) = l.length := by omega
  rw [e2] at this ⊢
  exact this
theorem wp_region_dies' {P : Program} {id : Nat} {Q : Exit → Act → World → Prop} {a : Act} {w : World} {l : List Oper} (n s m : Nat) (oj : Oper) (hm : P.follows .mixedOrders = true) (hj : (l.drop n).head? = some oj) (hs : Region.noSelect l.toArray = true)
    (hB : dieFrom .any l.toArray n (List.range n ++ List.range' (n + 1 + s) m) (Array.replicate l.length false) = true) (hl : n + 1 + s + m ≤ l.length) (hQ : ∀ (o : Oper) v c a w, Q (.panic c) (a.put o.dst v) w → Q (.panic c) a w)
    (h : wpQuiet P l.toArray (fun w' => ∃ g, w' = above w g) (fun a' => Dies P l.toArray (fun w' => ∃ g, w' = above w g) Q oj a') (l.take n ++ (l.drop (n + 1 + s)).take m) a) : (Code.region id l.toArray true).wp P Q a w := by
  have hj' : l.toArray[n]? = some oj := by
    rw [List.head?_drop] at hj
    simpa using hj
  have e1 : pick l.toArray (List.range n ++ List.range' (n + 1 + s) m) = l.take n ++ (l.drop (n + 1 + s)).take m := by
    have h1 : pick l.toArray (List.range n) = l.take n := by
      rw [List.range_eq_range']
      have := pick_range (l := l) n 0 (by omega)
      simpa using this
    have h2 := pick_range (l := l) m (n + 1 + s) (by omega)
    unfold pick at h1 h2 ⊢
    rw [List.filterMap_append, h1, h2]
  refine wp_region_dies n oj (List.range n ++ List.range' (n + 1 + s) m) hm hj' hs hB (by simp; omega) hQ ?_
  rw [e1]
  exact h
theorem put_defers (a : Act) (d : Option Tmp) (v : Value) : (a.put d v).defers = a.defers := by cases d <;> rfl
theorem bodyPost_back {P : Program} {fn : Func} {R : Ending → World → Prop} (d : Option Tmp) (v : Value) (c : List PanicEntry) (a : Act) (w : World) (h : bodyPost P fn R (.panic c) (a.put d v) w) : bodyPost P fn R (.panic c) a w := by
  obtain ⟨h1, h2⟩ := h
  exact ⟨by rw [put_defers] at h1; exact h1, h2⟩
end Go.Proofs.YtomccgodfimaiaaGreatDoor
