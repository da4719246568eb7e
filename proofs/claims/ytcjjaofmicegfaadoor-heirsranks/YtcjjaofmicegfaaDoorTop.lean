/- Circle: a range over a chain, that a return leaves. -/
import Derived.Test.YtcjjaofmicegfaaDoorSeq
namespace Go.Proofs.YtcjjaofmicegfaaDoor
open Go Go.RowKit Go.Shelf
attribute [local go_sem] Oper.semAt_some
set_option maxRecDepth 100000
set_option linter.unusedVariables false
set_option linter.unusedSimpArgs false
/-- the variables of the question -/
def CB (W : World) (t : Nat) (who : Int) (c : Bool) : Prop := Boxed W t 3 (.int .i64 who) ∧ Boxed W (t + 1) 4 (.bool c)
theorem CB.keep {W W' : World} {t : Nat} {who : Int} {c : Bool} (h : CB W t who c) (hk : ∀ (k : Nat) (cs : Array Value) (t : TypeId) (f : Nat × Nat), W.heap[k]? = some (Obj.cells cs t f) → W'.heap[k]? = some (Obj.cells cs t f)) : CB W' t who c :=
  ⟨hk _ _ _ _ h.1, hk _ _ _ _ h.2⟩
theorem Boxed.other {W : World} {b k : Nat} {t : TypeId} {v u : Value} (h : Boxed W b t v) (hne : b ≠ k) : Boxed (W.setCell ⟨k, 0, none⟩ u) b t v := (Below.heap_setCell _ _ _ _ hne).trans h
theorem CB.put {W : World} {t : Nat} {who : Int} {c : Bool} (h : CB W t who c) (c' : Bool) : CB (W.setCell ⟨t + 1, 0, none⟩ (.bool c')) t who c' :=
  ⟨Boxed.other h.1 (by omega), Boxed.set _ h.2⟩
theorem two_box (w : World) (v0 v1 : Value) (t0 t1 : TypeId) {t : Nat} (ht : w.heap.size = t) {W : World} (hW : (w.alloc (Obj.cells #[v0] t0)).alloc (Obj.cells #[v1] t1) = W) :
    Boxed W t t0 v0 ∧ Boxed W (t + 1) t1 v1 ∧ Below t w W ∧ W.heap.size = t + 1 + 1 := by
  subst ht
  subst hW
  refine ⟨(Boxed.new w t0 v0).alloc _, ?_, ((Below.refl _ w).alloc (Nat.le_refl _) _).alloc (by simp) _, by simp⟩
  have := Boxed.new (w.alloc (Obj.cells #[v0] t0)) t1 v1
  simpa using this
theorem circle_results {W : World} {t : Nat} {who : Int} {c : Bool} (h : CB W t who c) (tmps : Array Value) (h6 : tmps.getD 6 undef = .pointer (some ⟨t + 1, 0, none⟩)) :
    (results Tryd.f12 tmps).run Tryd.prog W = .ok (.bool c) W := by
  have hr : Tryd.f12.results = #[.cell 6 4] := rfl
  have c2 := h.2.cell
  rw [Array.getD_eq_getD_getElem?] at h6
  simp [results, hr, h6, go_sem, c2]
set_option maxHeartbeats 4000000 in
theorem circle_no {w : World} {sq : Option Addr} {ws : List Int} (hs : Src w sq ws) (hm : ws.length ≤ 140737488355328) (c : Nat) {who whom : Int} (hno : ¬ ((0 ≤ who ∧ who < ws.length) ∧ (0 ≤ whom ∧ whom < ws.length) ∧ Plc ws)) :
    Calls Tryd.prog 12 #[.slice sq ws.length c, .int .i64 who, .int .i64 whom] w fun e w' => e = .returned (.bool false) ∧ Below w.heap.size w w' := by
  refine (callsIn_wide (n := 3)).1 ?_
  refine callsIn_of_wp_marks Tryd.func12 rfl trivial ?_ rfl
  simp only [Tryd.ntmps12, List.size_toArray, List.length_cons, List.length_nil, Nat.reduceAdd, Nat.reduceSub, Array.replicate_succ, Array.replicate_zero, List.push_toArray, List.append_toArray, List.nil_append, List.cons_append]
  obtain ⟨t, ht⟩ : ∃ t, w.heap.size = t := ⟨_, rfl⟩
  obtain ⟨W0, hW0⟩ : ∃ W0, (w.alloc (.cells #[.int .i64 who] 3)).alloc (.cells #[.bool false] 4) = W0 := ⟨_, rfl⟩
  obtain ⟨x0, x1, hB0, hsz⟩ := two_box w _ _ _ _ ht hW0
  have hCB : CB W0 t who false := ⟨x0, x1⟩
  have c0 := x0.cell
  have c1 := x1.cell
  have f1 := x1.frozen
  rw [ht]
  by_cases h1 : 0 ≤ who ∧ who < ws.length
  · by_cases h2 : 0 ≤ whom ∧ whom < ws.length
    · have h3 : ¬ Plc ws := fun h => hno ⟨h1, h2, h⟩
      have P1 := isPlace_is (sp := sq) (c := c) hm (b := true) (r := who) (by simp; exact h1) W0
      have P2 := isPlace_is (sp := sq) (c := c) hm (b := true) (r := whom) (by simp; exact h2) W0
      have P3 := arePlaces_is (hs.below (ht ▸ hB0)) hm c (b := false) (by simp [h3])
      clear h1 h2 h3 hno hs
      generalize ws.length = n at *
      gi_wp2_with (first
        | (refine ⟨trivial, ?_⟩; gi_at_call 41; refine (callsIn_wide.2 P1).mono ?_; rintro e wx ⟨rfl, hwx⟩; subst hwx; clear hW0 ht P1)
        | (refine ⟨trivial, ?_⟩; gi_at_call 41; refine (callsIn_wide.2 P2).mono ?_; rintro e wx ⟨rfl, hwx⟩; subst hwx; clear P2)
        | (refine ⟨trivial, ?_⟩; gi_at_call 42; refine (callsIn_wide.2 P3).mono ?_; rintro e wx ⟨rfl, hwx⟩; subst hwx))
      exact ⟨_, circle_results (hCB.put false) _ rfl, rfl, hB0.setCell (p := ⟨t + 1, 0, none⟩) (by simp) _⟩
    · have P1 := isPlace_is (sp := sq) (c := c) hm (b := true) (r := who) (by simp; exact h1) W0
      have P2 := isPlace_is (sp := sq) (c := c) hm (b := false) (r := whom) (by simp; omega) W0
      clear h1 h2 hno hs
      generalize ws.length = n at *
      gi_wp2_with (first
        | (refine ⟨trivial, ?_⟩; gi_at_call 41; refine (callsIn_wide.2 P1).mono ?_; rintro e wx ⟨rfl, hwx⟩; subst hwx; clear hW0 ht P1)
        | (refine ⟨trivial, ?_⟩; gi_at_call 41; refine (callsIn_wide.2 P2).mono ?_; rintro e wx ⟨rfl, hwx⟩; subst hwx; clear P2))
      refine ⟨trivial, ?_⟩
      gi_wp2
      exact ⟨_, circle_results (hCB.put false) _ rfl, rfl, hB0.setCell (p := ⟨t + 1, 0, none⟩) (by simp) _⟩
  · have P1 := isPlace_is (sp := sq) (c := c) hm (b := false) (r := who) (by simp; omega) W0
    clear h1 hno hs
    generalize ws.length = n at *
    gi_wp2_with (first
      | (refine ⟨trivial, ?_⟩; gi_at_call 41; refine (callsIn_wide.2 P1).mono ?_; rintro e wx ⟨rfl, hwx⟩; subst hwx; clear hW0 ht P1))
    refine ⟨trivial, ?_⟩
    gi_wp2
    refine ⟨trivial, ?_⟩
    gi_wp2
    exact ⟨_, circle_results (hCB.put false) _ rfl, rfl, hB0.setCell (p := ⟨t + 1, 0, none⟩) (by simp) _⟩
set_option maxHeartbeats 4000000 in
theorem circle_yes {w : World} {sq : Option Addr} {ws : List Int} (hs : Src w sq ws) (hm : ws.length ≤ 140737488355328) (c : Nat) {who whom : Int} (h1 : 0 ≤ who ∧ who < ws.length) (h2 : 0 ≤ whom ∧ whom < ws.length) (h3 : Plc ws) :
    Calls Tryd.prog 12 #[.slice sq ws.length c, .int .i64 who, .int .i64 whom] w fun e w' => ((who ∈ chl ws whom ws.length ∧ e = .returned (.bool true)) ∨ (who ∉ chl ws whom ws.length ∧ e = .returned (.bool false))) ∧ Below w.heap.size w w' := by
  refine (callsIn_wide (n := 3)).1 ?_
  refine callsIn_of_wp_marks Tryd.func12 rfl trivial ?_ rfl
  simp only [Tryd.ntmps12, List.size_toArray, List.length_cons, List.length_nil, Nat.reduceAdd, Nat.reduceSub, Array.replicate_succ, Array.replicate_zero, List.push_toArray, List.append_toArray, List.nil_append, List.cons_append]
  obtain ⟨t, ht⟩ : ∃ t, w.heap.size = t := ⟨_, rfl⟩
  have HT : Hid (w.heap.size = t) := ht
  obtain ⟨W0, hW0⟩ : ∃ W0, (w.alloc (.cells #[.int .i64 who] 3)).alloc (.cells #[.bool false] 4) = W0 := ⟨_, rfl⟩
  obtain ⟨x0, x1, hB0, hsz⟩ := two_box w _ _ _ _ ht hW0
  have c0 := x0.cell
  obtain ⟨b, o, rfl, hcs⟩ := hs (by omega)
  have hbt : b < t := by rw [← ht]; exact cell_lt (hcs 0 (by omega))
  have P1 := isPlace_is (sp := some ⟨b, o, none⟩) (c := c) hm (b := true) (r := who) (by simp; exact h1) W0
  have P2 := isPlace_is (sp := some ⟨b, o, none⟩) (c := c) hm (b := true) (r := whom) (by simp; exact h2) W0
  have P3 := arePlaces_is (hs.below (ht ▸ hB0)) hm c (b := true) (by simp [h3])
  have P4 := chain_any (some ⟨b, o, none⟩) ws.length c whom W0
  obtain ⟨W1, hW1⟩ : ∃ W1, (W0.alloc (.cells #[.slice (some ⟨b, o, none⟩) ws.length c] 22)).alloc (.cells #[.int .i64 whom] 3) = W1 := ⟨_, rfl⟩
  obtain ⟨y0, y1, hB1, hsz1⟩ := two_box W0 _ _ _ _ hsz hW1
  rw [hW1, hsz] at P4
  rw [ht]
  have hBw : Below t w W1 := hB0.trans (hB1.mono (by omega))
  have hCB : CB W1 t who false := ⟨(hB1.block t (by omega)).trans x0, (hB1.block (t + 1) (by omega)).trans x1⟩
  have hcs1 : ∀ k, k < ws.length → W1.cell? ⟨b, o + k, none⟩ = some (.int .i64 (ws.getD k 0)) := fun k hk => (hBw.cell (p := ⟨b, o + k, none⟩) hbt).trans (hcs k hk)
  have HSQ := seq_stops (N := 2) (by omega) (t + 1 + 1 + 1) (t + 1 + 1) b o c (some ⟨b, o, none⟩) ws (fun _ => rfl) hm h3 whom h2.1 h2.2 W1 (by omega) (by omega) (by omega) y1.cell y0.cell hcs1
  clear hs hcs hW1 x0 x1 hcs1 y0 y1
  generalize chl ws whom ws.length = X at *
  generalize ws.length = n at *
  gi_wp2_with (first
    | (refine ⟨trivial, ?_⟩; gi_at_call 41; refine (callsIn_wide.2 P1).mono ?_; rintro e wx ⟨rfl, hwx⟩; subst hwx; clear hW0 ht P1)
    | (refine ⟨trivial, ?_⟩; gi_at_call 41; refine (callsIn_wide.2 P2).mono ?_; rintro e wx ⟨rfl, hwx⟩; subst hwx; clear P2)
    | (refine ⟨trivial, ?_⟩; gi_at_call 42; refine (callsIn_wide.2 P3).mono ?_; rintro e wx ⟨rfl, hwx⟩; subst hwx; clear P3)
    | (refine ⟨trivial, ?_⟩; gi_at_call 43; refine (callsIn_wide.2 P4).mono ?_; rintro e wx ⟨rfl, hwx⟩; have hwy := hwx.symm; subst hwy; clear P4))
  refine wpIn_rangeFunc_ownG rfl (by omega) (gf := 60) (lb := #[.pointer (some ⟨t + 1 + 1 + 1, 0, none⟩), .pointer (some ⟨t + 1 + 1, 0, none⟩)]) rfl trivial (enters_of Tryd.func60 (by kernel_rfl) rfl)
    HSQ Kp.trans (kp_b (by simp; omega)) (Below.refl _ _) (fun _ => rfl)
    (fun pre W => CB W t who false ∧ (∀ x ∈ pre, x ≠ who) ∧ Below t w W)
    (fun c pre W => c = .ret ∧ who ∈ pre ∧ CB W t who true ∧ Below t w W)
    (ownFrom_of fun s W W' hs hk hB => ⟨hs.1.keep hk, hs.2.1, hs.2.2.trans (hB t (by omega) (by have := hs.2.2.size; have := HT.out; omega))⟩)
    (fun c => ownFrom_of fun s W W' hs hk hB => ⟨hs.1, hs.2.1, hs.2.2.1.keep hk, hs.2.2.2.trans (hB t (by omega) (by have := hs.2.2.2.size; have := HT.out; omega))⟩)
    ⟨hCB, by simp, hBw⟩
    (fun x => { tmps := #[.slice (some ⟨b, o, none⟩) n c, .int .i64 who, .int .i64 whom, undef, .pointer (some ⟨t, 0, none⟩), undef, .pointer (some ⟨t + 1, 0, none⟩), .int .i64 x, .slice (some ⟨b, o, none⟩) n c, .int .i64 who, .bool true, .bool false, .bool false, .slice (some ⟨b, o, none⟩) n c, .int .i64 whom, .bool true, .bool false, .bool false, .bool false, .slice (some ⟨b, o, none⟩) n c, .bool true, .bool false, .bool false, .slice (some ⟨b, o, none⟩) n c, .int .i64 whom, .func (.func 60) #[] #[.pointer (some ⟨t + 1 + 1 + 1, 0, none⟩), .pointer (some ⟨t + 1 + 1, 0, none⟩)], .int .i64 x, undef, undef, undef], defers := [] }) ?assign ?body ?done ?stop
  case assign =>
    intro l x W K hK
    gi_wp2
    exact hK
  case body =>
    rintro l pre x W ⟨hCW, hne, hB⟩ hlt
    have c0' := hCW.1.cell
    have c1' := hCW.2.cell
    have f1' := hCW.2.frozen
    have hwt := hB.size
    clear c0 hsz hsz1 hB0 hB1 HSQ hBw hCB
    by_cases hxw : x = who
    · have hxe : (x == who) = true := by simpa using hxw
      gi_wp2
      exact ⟨(KeepsOthers.setCell _ _ _).from _, rfl, by simp [hxw], hCW.put true, hB.setCell (p := ⟨t + 1, 0, none⟩) (by simp) _⟩
    · have hxe : (x == who) = false := by simpa using hxw
      gi_wp2
      exact ⟨(KeepsOthers.refl _).from _, fun k _ => rfl, hCW, fun y hy => by
        rcases List.mem_append.1 hy with hy | hy
        · exact hne y hy
        · have : y = x := by simpa using hy
          rw [this]; exact hxw, hB⟩
  case done =>
    rintro D ys W hD rfl ⟨hCW, hne, hB⟩ hK
    have c1' := hCW.2.cell
    have f1' := hCW.2.frozen
    have HK : Hid (W.heap[D]? = some (.deferred (some []))) := hK
    have HNE : Hid (who ∉ ys) := fun h => hne who h rfl
    clear c0 hB0 hB1 HSQ hBw hCB hne hK
    gi_wp2
    have hK2 : (W.setCell ⟨t + 1, 0, none⟩ (.bool false)).heap[D]? = some (.deferred (some [])) := (KeepsOthers.setCell _ _ _).same D _ HK.out rfl
    refine ⟨by simp, .inl ⟨_, _, rfl, run_takeDeferred hK2, ?_⟩⟩
    have hfb := hCW.put false
    have hbw : Below t w (W.setCell ⟨t + 1, 0, none⟩ (.bool false)) := hB.setCell (p := ⟨t + 1, 0, none⟩) (by simp) _
    generalize W.setCell ⟨t + 1, 0, none⟩ (.bool false) = W2 at hK2 hfb hbw
    refine ⟨_, circle_results (hfb.keep (W' := W2.putObj D (.deferred none)) (fun k cs ty f hk => (World.putObj_heap_other (fun e => by rw [e, hK2] at hk; cases hk)).trans hk)) _ rfl, .inr ⟨HNE.out, rfl⟩, ?_⟩
    exact hbw.trans (belowK_b (w := W1) (by omega) W2 D _ _ hD hK2 rfl rfl)
  case stop =>
    rintro D c pre W hD hpre ⟨rfl, hx, hCW, hB⟩ hK
    have c1' := hCW.2.cell
    clear c0 hB0 hB1 HSQ hBw hCB
    gi_wp2
    refine ⟨by simp, .inl ⟨_, _, rfl, run_takeDeferred hK, ?_⟩⟩
    refine ⟨_, circle_results (hCW.keep (W' := W.putObj D (.deferred none)) (fun k cs ty f hk => (World.putObj_heap_other (fun e => by rw [e, hK] at hk; cases hk)).trans hk)) _ rfl, .inl ⟨hpre.subset hx, rfl⟩, ?_⟩
    exact hB.trans (belowK_b (w := W1) (by omega) W D _ _ hD hK rfl rfl)
/-- Circle, told -/
theorem circle_is {w : World} {sq : Option Addr} {ws : List Int} (hs : Src w sq ws) (hm : ws.length ≤ 140737488355328) (c : Nat) {who whom : Int} {b : Bool} (hb : b = true ↔ Circ ws who whom) :
    Calls Tryd.prog 12 #[.slice sq ws.length c, .int .i64 who, .int .i64 whom] w fun e w' => e = .returned (.bool b) ∧ Below w.heap.size w w' := by
  by_cases h : (0 ≤ who ∧ who < ws.length) ∧ (0 ≤ whom ∧ whom < ws.length) ∧ Plc ws
  · obtain ⟨h1, h2, h3⟩ := h
    refine (circle_yes hs hm c h1 h2 h3).mono ?_
    rintro e w' ⟨h4 | h4, hB⟩
    · have : b = true := hb.2 ⟨h1, h2, h3, (chl_mem ws _ _ _ h1.1).1 h4.1⟩
      exact ⟨by rw [this]; exact h4.2, hB⟩
    · have : b = false := by
        cases hbb : b
        · rfl
        · exact absurd ((chl_mem ws _ _ _ h1.1).2 (hb.1 hbb).2.2.2) h4.1
      exact ⟨by rw [this]; exact h4.2, hB⟩
  · refine (circle_no hs hm c h).mono ?_
    rintro e w' ⟨rfl, hB⟩
    have : b = false := by
      cases hbb : b
      · rfl
      · exact absurd ⟨(hb.1 hbb).1, (hb.1 hbb).2.1, (hb.1 hbb).2.2.1⟩ h
    exact ⟨by rw [this], hB⟩
end Go.Proofs.YtcjjaofmicegfaaDoor
