/- A map of numbers by numbers, as it lies in memory, and what is read of it, put in it, and struck out of it. No law of the program itself. -/
import Derived.Test.YtciafjmljmeimaaDoorAPure
import Derived.Maps.OwnSet
import Derived.Maps.OwnOps
namespace Go.Proofs.YtciafjmljmeimaaDoor
open Go Go.RowKit
set_option maxRecDepth 100000
set_option linter.unusedVariables false
set_option linter.unusedSimpArgs false
theorem kw : Maps.Keyed Tryd.prog 3 := Maps.int_keyed Tryd.underlying3
theorem zeroI (w : World) : (zeroValue 2).run Tryd.prog w = .ok (.int .i64 0) w := by kernel_rfl
def S64 (z : Int) : Prop := -9223372036854775808 ≤ z ∧ z ≤ 9223372036854775807
theorem S64.key {z : Int} (h : S64 z) : keyOf Tryd.prog 3 (.int .i64 z) = some (.int .i64 z) := Maps.keyOf_int_mk Tryd.underlying3 (WalkArith.wf_i64 h)
theorem S64.lit {z : Int} (h : S64 z) : WideAt.IsKeyLit (.int .i64 z) := kw.key h.key
def hasP (ps : List (Int × Int)) (z : Int) : Bool := ps.any (fun p => decide (p.1 = z))
structure EM (w : World) (mb n : Nat) (ps : List (Int × Int)) (D : DataW Unit) : Prop where
  own : w.ownsMap Tryd.prog 3 (plainElem Tryd.prog 2) mb n D
  has : ∀ z, S64 z → Maps.has D (.int .i64 z) = hasP ps z
  at_ : ∀ p ∈ ps, S64 p.1 ∧ D.atKey (.int .i64 p.1) (.lit (.int .i64 0)) = .lit (.int .i64 p.2)
/-- the map at block mb has these -/
def EMp (w : World) (mb n : Nat) (ps : List (Int × Int)) : Prop := ∃ D, EM w mb n ps D
theorem hasP_yes {ps : List (Int × Int)} {z : Int} : hasP ps z = true ↔ ∃ p ∈ ps, p.1 = z := by simp [hasP]
theorem hasP_congr {ps qs : List (Int × Int)} (h : ∀ p, p ∈ qs ↔ p ∈ ps) (z : Int) : hasP qs z = hasP ps z := by
  apply Bool.eq_iff_iff.2
  rw [hasP_yes, hasP_yes]
  constructor
  · rintro ⟨p, hp, e⟩; exact ⟨p, (h p).1 hp, e⟩
  · rintro ⟨p, hp, e⟩; exact ⟨p, (h p).2 hp, e⟩
theorem EMp.congr {w : World} {mb n : Nat} {ps qs : List (Int × Int)} (h : EMp w mb n ps) (hm : ∀ p, p ∈ qs ↔ p ∈ ps) : EMp w mb n qs := by
  obtain ⟨D, h1, h2, h3⟩ := h
  exact ⟨D, h1, fun z hz => by rw [h2 z hz, hasP_congr hm], fun p hp => h3 p ((hm p).1 hp)⟩
theorem EMp.lt {w : World} {mb n : Nat} {ps : List (Int × Int)} (h : EMp w mb n ps) : mb < w.heap.size := by
  obtain ⟨D, h1, _⟩ := h
  exact h1.lt
theorem EMp.isMap {w : World} {mb n : Nat} {ps : List (Int × Int)} (h : EMp w mb n ps) : ∃ es c, w.heap[mb]? = some (.map es c) := by
  obtain ⟨D, ⟨es, c, h1, _⟩, _⟩ := h
  exact ⟨es, c, h1⟩
theorem EMp.ne {w : World} {mb n : Nat} {ps : List (Int × Int)} (h : EMp w mb n ps) {g : Nat} {cs : Array Value} {t : TypeId} {k : Nat × Nat} (hg : w.heap[g]? = some (.cells cs t k)) : mb ≠ g := by
  rintro rfl
  obtain ⟨es, c, e⟩ := h.isMap
  rw [hg] at e
  cases e
theorem EMp.buts {w w' : World} {mb n : Nat} {ps : List (Int × Int)} {l : List Nat} (h : EMp w mb n ps) (hb : Buts l w w') (hm : mb ∉ l) : EMp w' mb n ps := by
  obtain ⟨D, ⟨es, c, e, r⟩, h2, h3⟩ := h
  exact ⟨D, ⟨es, c, (hb.block mb (Array.getElem?_eq_some_iff.1 e).1 hm).trans e, r⟩, h2, h3⟩
theorem EMp.below {w w' : World} {mb n : Nat} {ps : List (Int × Int)} (h : EMp w mb n ps) (hb : Below w.heap.size w w') : EMp w' mb n ps := h.buts (l := []) (Buts.of hb) (by simp)
theorem EMp.mono {w : World} {mb n n' : Nat} {ps : List (Int × Int)} (h : EMp w mb n ps) (hn : n ≤ n') : EMp w mb n' ps := by
  obtain ⟨D, h1, h2, h3⟩ := h
  exact ⟨D, h1.mono hn, h2, h3⟩
theorem EMp.made (w : World) : EMp (w.alloc (.map #[] 0)) w.heap.size 0 [] :=
  ⟨.map [], World.ownsMap_made _ _ _ _, fun z _ => rfl, by simp⟩
theorem lit_ne {a b : Int} (h : a ≠ b) : (Lit.int .i64 a) ≠ Lit.int .i64 b := fun e => h (by injection e)
theorem EM.put {w w' : World} {mb n : Nat} {ps : List (Int × Int)} {D : DataW Unit} (h : EM w mb n ps D) {who e : Int} (hw : S64 who) (h' : w'.ownsMap Tryd.prog 3 (plainElem Tryd.prog 2) mb (n + 1) (D.put (.int .i64 who) (.lit (.int .i64 e)))) :
    EMp w' mb (n + 1) (ps.filter (fun p => decide (p.1 ≠ who)) ++ [(who, e)]) := by
  refine ⟨_, h', fun z hz => ?_, fun p hp => ?_⟩
  · by_cases c : z = who
    · subst c
      rw [Maps.has_put_same h.own.isMap hz.lit]
      exact (hasP_yes.2 ⟨(z, e), by simp, rfl⟩).symm
    · rw [Maps.has_put_other (lit_ne c), h.has z hz]
      apply Bool.eq_iff_iff.2
      rw [hasP_yes, hasP_yes]
      constructor
      · rintro ⟨p, hp, e1⟩
        exact ⟨p, by simp [hp, e1, c], e1⟩
      · rintro ⟨p, hp, e1⟩
        rcases List.mem_append.1 hp with hp | hp
        · exact ⟨p, (List.mem_filter.1 hp).1, e1⟩
        · obtain rfl : p = (who, e) := by simpa using hp
          exact absurd e1.symm c
  · rcases List.mem_append.1 hp with hp | hp
    · obtain ⟨hp, hn⟩ := List.mem_filter.1 hp
      have hn' : p.1 ≠ who := by simpa using hn
      rw [Maps.atKey_put_other (lit_ne hn')]
      exact h.at_ p hp
    · obtain rfl : p = (who, e) := by simpa using hp
      exact ⟨hw, Maps.atKey_put_same h.own.isMap hw.lit _ _⟩
theorem EM.del {w w' : World} {mb n : Nat} {ps : List (Int × Int)} {D : DataW Unit} (h : EM w mb n ps D) {who : Int} (hw : S64 who) (h' : w'.ownsMap Tryd.prog 3 (plainElem Tryd.prog 2) mb n (D.del (.int .i64 who))) :
    EMp w' mb n (ps.filter (fun p => decide (p.1 ≠ who))) := by
  refine ⟨_, h', fun z hz => ?_, fun p hp => ?_⟩
  · by_cases c : z = who
    · subst c
      rw [Maps.has_del_same]
      cases hh : hasP (ps.filter (fun p => decide (p.1 ≠ z))) z with
      | false => rfl
      | true =>
        obtain ⟨p, hp, e1⟩ := hasP_yes.1 hh
        have := (List.mem_filter.1 hp).2
        simp [e1] at this
    · rw [Maps.has_del_other (lit_ne c), h.has z hz]
      apply Bool.eq_iff_iff.2
      rw [hasP_yes, hasP_yes]
      constructor
      · rintro ⟨p, hp, e1⟩
        exact ⟨p, List.mem_filter.2 ⟨hp, by simp [e1, c]⟩, e1⟩
      · rintro ⟨p, hp, e1⟩
        exact ⟨p, (List.mem_filter.1 hp).1, e1⟩
  · obtain ⟨hp, hn⟩ := List.mem_filter.1 hp
    have hn' : p.1 ≠ who := by simpa using hn
    rw [Maps.atKey_del_other (lit_ne hn')]
    exact h.at_ p hp
/-- what is looked up, and whether it is there -/
theorem wpList_look_em {w : World} {ops : Array Oper} {rest : List Oper} {o : Oper} {a : Go.Act} {Q : Exit → Go.Act → World → Prop} (hg : o.guard = none) (m x : Operand) (hop : o.op = Op.lookup 49 m x true)
    {mb n : Nat} {ps : List (Int × Int)} (h : EMp w mb n ps) (hm : a.eval m = .map (some mb)) {who : Int} (hx : a.eval x = .int .i64 who) (hw : S64 who)
    (hK : ∀ c : Int, wpList Tryd.prog ops Q rest (a.put o.dst (.tuple #[.int .i64 c, .bool (hasP ps who)])) w) : wpList Tryd.prog ops Q (o :: rest) a w := by
  obtain ⟨D, h1, h2, h3⟩ := h
  refine wpList_lookup_own_ok_int w hg m x 49 hop 3 2 .i64 kw Tryd.underlying49 Tryd.underlying2 (zeroI _) mb n D hm h1 _ _ hx hw.key fun c hat hwc => ?_
  rw [h2 who hw]
  exact hK c
theorem wpList_at_em {w : World} {ops : Array Oper} {rest : List Oper} {o : Oper} {a : Go.Act} {Q : Exit → Go.Act → World → Prop} (hg : o.guard = none) (m x : Operand) (hop : o.op = Op.lookup 49 m x false)
    {mb n : Nat} {ps : List (Int × Int)} (h : EMp w mb n ps) (hm : a.eval m = .map (some mb)) {who e : Int} (hx : a.eval x = .int .i64 who) (hw : (who, e) ∈ ps)
    (hK : wpList Tryd.prog ops Q rest (a.put o.dst (.int .i64 e)) w) : wpList Tryd.prog ops Q (o :: rest) a w := by
  obtain ⟨D, h1, h2, h3⟩ := h
  obtain ⟨hs, hat0⟩ := h3 _ hw
  refine wpList_lookup_own_int w hg m x 49 hop 3 2 .i64 kw Tryd.underlying49 Tryd.underlying2 (zeroI _) mb n D hm h1 _ _ hx hs.key fun c hat hwc => ?_
  rw [hat0] at hat
  obtain rfl : e = c := by injection hat with h; injection h
  exact hK
theorem wpList_put_em {w : World} {ops : Array Oper} {rest : List Oper} {o : Oper} {a : Go.Act} {Q : Exit → Go.Act → World → Prop} (hg : o.guard = none) (m x v : Operand) (hop : o.op = Op.mapUpdate 49 m x v)
    {mb n : Nat} {ps : List (Int × Int)} (h : EMp w mb n ps) (hn : n ≤ 100000) (hm : a.eval m = .map (some mb)) {who e : Int} (hx : a.eval x = .int .i64 who) (hv : a.eval v = .int .i64 e) (hw : S64 who) (he : S64 e)
    (hK : ∀ w', Hid (EMp w' mb (n + 1) (ps.filter (fun p => decide (p.1 ≠ who)) ++ [(who, e)])) → Hid (Buts [mb] w w') → wpList Tryd.prog ops Q rest (a.put o.dst undef) w') : wpList Tryd.prog ops Q (o :: rest) a w := by
  obtain ⟨D, hE⟩ := h
  refine wpList_mapUpdate_own w hg m x v 49 hop 3 2 kw Tryd.underlying49 _ mb n D hm hE.own (by unfold maxLen; omega) _ _ _ hx hv hw.key _ [] (plainElem_int Tryd.underlying2 (WalkArith.wf_i64 he)) fun w' h1 h2 => ?_
  exact hK w' (hE.put hw h1) (show Buts [mb] w w' by simpa using Buts.grown h2)
theorem wpList_del_em {w : World} {ops : Array Oper} {rest : List Oper} {o : Oper} {a : Go.Act} {Q : Exit → Go.Act → World → Prop} (hg : o.guard = none) (m x : Operand) (hop : o.op = Op.call { callee := Callee.builtin Builtin.delete, args := #[m, x], argTypes := #[49, 3] })
    {mb n : Nat} {ps : List (Int × Int)} (h : EMp w mb n ps) (hm : a.eval m = .map (some mb)) {who : Int} (hx : a.eval x = .int .i64 who) (hw : S64 who)
    (hK : ∀ w', Hid (EMp w' mb n (ps.filter (fun p => decide (p.1 ≠ who)))) → Hid (Buts [mb] w w') → wpList Tryd.prog ops Q rest (a.put o.dst (.tuple #[])) w') : wpList Tryd.prog ops Q (o :: rest) a w := by
  obtain ⟨D, hE⟩ := h
  refine wpList_delete_own w hg m x 49 3 hop 2 kw Tryd.underlying49 _ mb n D hm hE.own _ _ hx hw.key fun w' h1 h2 => ?_
  exact hK w' (hE.del hw h1) (show Buts [mb] w w' by simpa using Buts.grown h2.grown)
end Go.Proofs.YtciafjmljmeimaaDoor
