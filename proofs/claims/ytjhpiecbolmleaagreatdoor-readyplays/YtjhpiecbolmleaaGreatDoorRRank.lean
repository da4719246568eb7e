/- What First and Rank answer. -/
import Derived.Test.YtjhpiecbolmleaaGreatDoorRList
namespace Go.Proofs.YtjhpiecbolmleaaGreatDoor
open Go Go.RowKit Go.Shelf
attribute [local go_sem] Oper.semAt_some
set_option maxRecDepth 100000
set_option linter.unusedVariables false
set_option linter.unusedSimpArgs false
theorem Boxed.other {W : World} {b k : Nat} {t : TypeId} {v u : Value} (h : Boxed W b t v) (hne : b ≠ k) : Boxed (W.setCell ⟨k, 0, none⟩ u) b t v := (Below.heap_setCell _ _ _ _ hne).trans h
/-- two results in boxes -/
def R2 (W : World) (t : Nat) (a : Int) (b : Bool) : Prop := Boxed W t 3 (.int .i64 a) ∧ Boxed W (t + 1) 4 (.bool b)
theorem R2.keep {W W' : World} {t : Nat} {a : Int} {b : Bool} (h : R2 W t a b) (hk : ∀ (k : Nat) (cs : Array Value) (t : TypeId) (f : Nat × Nat), W.heap[k]? = some (Obj.cells cs t f) → W'.heap[k]? = some (Obj.cells cs t f)) : R2 W' t a b :=
  ⟨hk _ _ _ _ h.1, hk _ _ _ _ h.2⟩
theorem R2.put {W : World} {t : Nat} {a : Int} {b : Bool} (h : R2 W t a b) (a' : Int) (b' : Bool) : R2 ((W.setCell ⟨t, 0, none⟩ (.int .i64 a')).setCell ⟨t + 1, 0, none⟩ (.bool b')) t a' b' :=
  ⟨Boxed.other (Boxed.set _ h.1) (by omega), Boxed.set _ (Boxed.other h.2 (by omega))⟩
theorem put_shut {W : World} {D : Nat} {o : Obj} (hK : W.heap[D]? = some o) (ho : o.isCells = false) (o' : Obj) : ∀ (k : Nat) (cs : Array Value) (t : TypeId) (f : Nat × Nat), W.heap[k]? = some (Obj.cells cs t f) → (W.putObj D o').heap[k]? = some (Obj.cells cs t f) :=
  fun k cs t f hk => (World.putObj_heap_other (fun e => by rw [e, hK] at hk; cases hk; cases ho)).trans hk
theorem first_results {W : World} {t : Nat} {a : Int} {b : Bool} (h : R2 W t a b) (tmps : Array Value) (h4 : tmps.getD 2 undef = .pointer (some ⟨t, 0, none⟩)) (h5 : tmps.getD 3 undef = .pointer (some ⟨t + 1, 0, none⟩)) :
    (results Tryz.f9 tmps).run Tryz.prog W = .ok (.tuple #[.int .i64 a, .bool b]) W := by
  have hr : Tryz.f9.results = #[.cell 2 3, .cell 3 4] := rfl
  have c2 := h.1.cell
  have c3 := h.2.cell
  rw [Array.getD_eq_getD_getElem?] at h4 h5
  simp [results, hr, h4, h5, go_sem, c2, c3]
theorem rank_results {W : World} {t : Nat} {a : Int} {b : Bool} (h : R2 W t a b) (tmps : Array Value) (h4 : tmps.getD 4 undef = .pointer (some ⟨t, 0, none⟩)) (h5 : tmps.getD 5 undef = .pointer (some ⟨t + 1, 0, none⟩)) :
    (results Tryz.f11 tmps).run Tryz.prog W = .ok (.tuple #[.int .i64 a, .bool b]) W := by
  have hr : Tryz.f11.results = #[.cell 4 3, .cell 5 4] := rfl
  have c2 := h.1.cell
  have c3 := h.2.cell
  rw [Array.getD_eq_getD_getElem?] at h4 h5
  simp [results, hr, h4, h5, go_sem, c2, c3]
theorem two_new (w : World) : R2 ((w.alloc (.cells #[.int .i64 0] 3)).alloc (.cells #[.bool false] 4)) w.heap.size 0 false := by
  refine ⟨(Boxed.new w _ _).alloc _, ?_⟩
  have := Boxed.new (w.alloc (.cells #[.int .i64 0] 3)) 4 (.bool false)
  rwa [World.size_alloc] at this
set_option maxHeartbeats 4000000 in
theorem qfirst_nil {w : World} : Calls Tryz.prog 9 #[.pointer none] w fun e w' => e = .returned (.tuple #[.int .i64 0, .bool false]) ∧ Below w.heap.size w w' := by
  refine (callsIn_wide (n := 3)).1 ?_
  refine callsIn_of_wp_marks Tryz.func9 rfl trivial ?_ rfl
  simp only [Tryz.ntmps9, List.size_toArray, List.length_cons, List.length_nil, Nat.reduceAdd, Nat.reduceSub, Array.replicate_succ, Array.replicate_zero, List.push_toArray, List.append_toArray, List.nil_append, List.cons_append]
  have hR := two_new w
  have hB : Below w.heap.size w ((w.alloc (.cells #[.int .i64 0] 3)).alloc (.cells #[.bool false] 4)) := ((Below.refl _ w).alloc (Nat.le_refl _) _).alloc (by simp) _
  gi_wp2_with (refine ⟨trivial, ?_⟩; gi_at_call 27; refine (callsIn_wide.2 qthere_nil).mono ?_; rintro e w' ⟨rfl, rfl⟩; generalize (w.alloc (.cells #[.int .i64 0] 3)).alloc (.cells #[.bool false] 4) = W at *; have c1 := hR.1.cell; have c2 := hR.2.cell; have f1 := hR.1.frozen; have f2 := hR.2.frozen)
  refine ⟨_, first_results (hR.put 0 false) _ rfl rfl, rfl, ?_⟩
  exact (hB.setCell (p := ⟨w.heap.size, 0, none⟩) (by simp) _).setCell (p := ⟨w.heap.size + 1, 0, none⟩) (by simp) _
theorem fs_none {X : Nat → List Int} {l : Nat} (h : Lad X l) (h0 : l = 0) : fsv X = 0 ∧ fsb X = false := by
  have : tp X = none := tp_none.2 (h.zero h0)
  unfold fsv fsb
  rw [this]
  exact ⟨rfl, rfl⟩
theorem fs_some {X : Nat → List Int} {l : Nat} (h : Lad X l) (h0 : l ≠ 0) : fsv X = (X l.log2).headD 0 ∧ fsb X = true ∧ X l.log2 ≠ [] ∧ l.log2 < 32 := by
  obtain ⟨h1, h2, h3⟩ := h.top h0
  unfold fsv fsb
  rw [h1]
  exact ⟨rfl, rfl, h2, h3⟩
theorem four_new (w : World) (v2 v3 : Value) (t2 t3 : TypeId) {W : World} (hW : (((w.alloc (.cells #[.int .i64 0] 3)).alloc (.cells #[.bool false] 4)).alloc (.cells #[v2] t2)).alloc (.cells #[v3] t3) = W) :
    R2 W w.heap.size 0 false ∧ Boxed W (w.heap.size + 1 + 1) t2 v2 ∧ Boxed W (w.heap.size + 1 + 1 + 1) t3 v3 ∧ Below w.heap.size w W ∧ W.heap.size = w.heap.size + 1 + 1 + 1 + 1 := by
  subst hW
  refine ⟨⟨((two_new w).1.alloc _).alloc _, ((two_new w).2.alloc _).alloc _⟩, ?_, ?_, (((((Below.refl _ w).alloc (Nat.le_refl _) _).alloc (by simp) _).alloc (by simp; omega) _).alloc (by simp; omega) _), by simp⟩
  · have := (Boxed.new ((w.alloc (.cells #[.int .i64 0] 3)).alloc (.cells #[.bool false] 4)) t2 v2).alloc (.cells #[v3] t3)
    rwa [World.size_alloc, World.size_alloc] at this
  · have := Boxed.new (((w.alloc (.cells #[.int .i64 0] 3)).alloc (.cells #[.bool false] 4)).alloc (.cells #[v2] t2)) t3 v3
    rwa [World.size_alloc, World.size_alloc, World.size_alloc] at this
set_option maxHeartbeats 4000000 in
theorem qfirst_any {B s : Nat} {w : World} {p : Nat} {X : Nat → List Int} (h : QS B s w p X) :
    Calls Tryz.prog 9 #[.pointer (some ⟨p, 0, none⟩)] w fun e w' => e = .returned (.tuple #[.int .i64 (fsv X), .bool (fsb X)]) ∧ Below w.heap.size w w' := by
  obtain ⟨hp, hg, l, hQ, _, _, _, _⟩ := h
  refine (callsIn_wide (n := 3)).1 ?_
  refine callsIn_of_wp_marks Tryz.func9 rfl trivial ?_ rfl
  simp only [Tryz.ntmps9, List.size_toArray, List.length_cons, List.length_nil, Nat.reduceAdd, Nat.reduceSub, Array.replicate_succ, Array.replicate_zero, List.push_toArray, List.append_toArray, List.nil_append, List.cons_append]
  by_cases h0 : l = 0
  · obtain ⟨e1, e2⟩ := fs_none hQ.lad h0
    rw [e1, e2]
    subst h0
    have hR := two_new w
    have hB : Below w.heap.size w ((w.alloc (.cells #[.int .i64 0] 3)).alloc (.cells #[.bool false] 4)) := ((Below.refl _ w).alloc (Nat.le_refl _) _).alloc (by simp) _
    have hQ0 := hQ.below hB
    clear hQ e1 e2
    have hp0 := hQ0.row (r := 0) (by omega)
    have hld := hQ0.ld
    clear hQ0
    gi_wp2_with (refine ⟨trivial, ?_⟩; first
      | (gi_at_call 27; refine (callsIn_wide.2 (qthere_yes hp0)).mono ?_; rintro e w' ⟨rfl, rfl⟩; generalize (w.alloc (.cells #[.int .i64 0] 3)).alloc (.cells #[.bool false] 4) = W at *; have c1 := hR.1.cell; have c2 := hR.2.cell; have f1 := hR.1.frozen; have f2 := hR.2.frozen)
      | (gi_at_call 28; refine (callsIn_wide.2 (Ld.first_no _)).mono ?_; rintro e w' ⟨rfl, rfl⟩))
    refine ⟨_, first_results (hR.put 0 false) _ rfl rfl, rfl, ?_⟩
    exact (hB.setCell (p := ⟨w.heap.size, 0, none⟩) (by simp) _).setCell (p := ⟨w.heap.size + 1, 0, none⟩) (by simp) _
  · obtain ⟨e1, e2, hne, hk⟩ := fs_some hQ.lad h0
    rw [e1, e2]
    have hll := hQ.lad.lt
    have hB : Below w.heap.size w ((w.alloc (.cells #[.int .i64 0] 3)).alloc (.cells #[.bool false] 4)) := ((Below.refl _ w).alloc (Nat.le_refl _) _).alloc (by simp) _
    have hp0 := (hQ.below hB).row (r := 0) (by omega)
    have hld := (hQ.below hB).ld
    have HQ : Hid (Que w p hp hg X l) := hQ
    have hF := fun W => Ld.first_yes l hll h0 W
    obtain ⟨k, hkk⟩ : ∃ k, l.log2 = k := ⟨_, rfl⟩
    simp only [hkk] at hF hne hk ⊢
    clear hQ e1 e2 hkk hB
    gi_wp2_with (refine ⟨trivial, ?_⟩; first
      | (gi_at_call 27; refine (callsIn_wide.2 (qthere_yes hp0)).mono ?_; rintro e w' ⟨rfl, rfl⟩)
      | (gi_at_call 28; refine (callsIn_wide.2 (hF _)).mono ?_; rintro e w' ⟨rfl, rfl⟩)
      | (gi_at_call 29; refine (callsIn_wide.2 (those_any _ _ _)).mono ?_; rintro e w' ⟨rfl, rfl⟩))
    obtain ⟨W0, hW0⟩ : ∃ W0, (((w.alloc (.cells #[.int .i64 0] 3)).alloc (.cells #[.bool false] 4)).alloc (.cells #[.pointer (some ⟨p, 0, none⟩)] 24)).alloc (.cells #[.int .i64 (k : Int)] 3) = W0 := ⟨_, rfl⟩
    obtain ⟨hR, bQ, bR, hB0, hS0⟩ := four_new w _ _ _ _ hW0
    simp only [World.size_alloc, hW0]
    have hQ0 := HQ.out.below hB0
    have e : lsX X (k : Int) = X k := by unfold lsX; rw [if_pos (by omega)]; rfl
    clear hW0 HQ hp0 hld hF
    refine wpIn_rangeFunc_ownG rfl (by omega) (gf := 66) (lb := #[.pointer (some ⟨w.heap.size + 1 + 1, 0, none⟩), .pointer (some ⟨w.heap.size + 1 + 1 + 1, 0, none⟩)]) rfl trivial (enters_of Tryz.func66 (by kernel_rfl) rfl)
      (seq_stops _ (by omega) (w.heap.size + 1 + 1) (w.heap.size + 1 + 1 + 1) w.heap.size p k hp hg X l W0 (by omega) (by omega) bQ.cell bR.cell hQ0 (by omega) _ hR.1.cell rfl) KL.trans (kl_b (by omega)) (Below.refl _ _) (fun _ => rfl)
      (fun pre W => pre = [] ∧ R2 W w.heap.size 0 false ∧ Below w.heap.size w W)
      (fun c pre W => c = .ret ∧ ∃ x, pre = [x] ∧ R2 W w.heap.size x true ∧ Below w.heap.size w W)
      (ownFrom_of fun s W W' hs hk hB => ⟨hs.1, hs.2.1.keep hk, hs.2.2.trans (hB _ (by omega) hs.2.2.size)⟩)
      (fun c => ownFrom_of fun s W W' hs hk hB => by
        obtain ⟨hc, x, hp, hfb, hb⟩ := hs
        exact ⟨hc, x, hp, hfb.keep hk, hb.trans (hB _ (by omega) hb.size)⟩)
      ⟨rfl, hR, hB0⟩
      (fun x => { tmps := #[.pointer (some ⟨p, 0, none⟩), undef, .pointer (some ⟨w.heap.size, 0, none⟩), .pointer (some ⟨w.heap.size + 1, 0, none⟩), .int .i64 (k : Int), .bool true, .int .i64 x, .pointer (some ⟨p, 0, none⟩), .bool true, .bool false, .tuple #[.int .i64 (k : Int), .bool true], .pointer (some ⟨p, 0, none⟩), .pointer (some ⟨p, 0, none⟩), .pointer (some ⟨p, 32, none⟩), .int .u32 (l : Int), .tuple #[.int .i64 (k : Int), .bool true], .int .i64 (k : Int), .bool true, .bool true, .bool false, .pointer (some ⟨p, 0, none⟩), .int .i64 (k : Int), .func (.func 66) #[] #[.pointer (some ⟨w.heap.size + 1 + 1, 0, none⟩), .pointer (some ⟨w.heap.size + 1 + 1 + 1, 0, none⟩)], .int .i64 x, undef], defers := [] }) ?assign ?body ?done ?stop
    case assign =>
      intro l x W K hK
      gi_wp2
      exact hK
    case body =>
      rintro l pre x W ⟨rfl, hR1, hB1⟩ hlt
      have c1 := hR1.1.cell
      have c2 := hR1.2.cell
      have f1 := hR1.1.frozen
      have f2 := hR1.2.frozen
      gi_wp2
      exact ⟨((KeepsOthers.setCell _ _ _).trans (KeepsOthers.setCell _ _ _)).from _, rfl, x, rfl, hR1.put x true, (hB1.setCell (p := ⟨w.heap.size, 0, none⟩) (by simp) _).setCell (p := ⟨w.heap.size + 1, 0, none⟩) (by simp) _⟩
    case done =>
      rintro D ys W hD hys ⟨rfl, hR1, hB1⟩ hK
      rw [e] at hys
      exact absurd hys.symm hne
    case stop =>
      rintro D c pre W hD hpre ⟨rfl, x, rfl, hR1, hB1⟩ hK
      rw [e] at hpre
      have hx : (X k).headD 0 = x := by
        obtain ⟨ys, hy⟩ := hpre
        rw [← hy]; rfl
      have HX : Hid ((X k).headD 0 = x) := hx
      clear hx
      gi_wp2
      refine ⟨by simp, .inl ⟨_, _, rfl, run_takeDeferred hK, ?_⟩⟩
      refine ⟨_, first_results (hR1.keep (put_shut hK rfl _)) _ rfl rfl, by rw [HX.out], ?_⟩
      exact hB1.trans (belowK_b (w := w) (Nat.le_refl _) W D _ _ (by omega) hK rfl rfl)
end Go.Proofs.YtjhpiecbolmleaaGreatDoor
