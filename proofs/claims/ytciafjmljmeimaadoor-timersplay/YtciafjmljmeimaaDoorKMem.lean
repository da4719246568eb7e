/- The document's own alarms, as they lie in memory. -/
import Derived.Test.YtciafjmljmeimaaDoorATop
import Derived.Test.YtciafjmljmeimaaDoorDSame
import Derived.Maps.AppendAt
namespace Go.Proofs.YtciafjmljmeimaaDoor
open Go Go.RowKit
set_option maxRecDepth 100000
set_option linter.unusedVariables false
set_option linter.unusedSimpArgs false
theorem infoS : (Tryd.prog.info? 60).map (fun i => (i.zero, i.size, i.bytes)) = some (some (.agg #[.int .i64 0, .int .i64 0, .int .i64 0]), 3, 24) := by kernel_rfl
/-- alarms as cells -/
def als : List Alm → List Value
  | [] => []
  | x :: r => .int .i64 x.1 :: .int .i64 x.2.1 :: .int .i64 x.2.2 :: als r
theorem als_len : ∀ ds : List Alm, (als ds).length = ds.length * 3
  | [] => rfl
  | x :: r => by simp [als, als_len r]; omega
theorem als_app : ∀ ds es : List Alm, als (ds ++ es) = als ds ++ als es
  | [], _ => rfl
  | x :: r, es => by simp [als, als_app r]
theorem als_at : ∀ (ds : List Alm) (i : Nat), i < ds.length → (als ds)[i * 3]? = some (.int .i64 (ds.getD i (0, 0, 0)).1) ∧ (als ds)[i * 3 + 1]? = some (.int .i64 (ds.getD i (0, 0, 0)).2.1) ∧ (als ds)[i * 3 + 2]? = some (.int .i64 (ds.getD i (0, 0, 0)).2.2)
  | [], _, h => by simp at h
  | x :: r, 0, _ => by simp [als]
  | x :: r, i + 1, h => by
    rw [show (i + 1) * 3 = i * 3 + 1 + 1 + 1 by omega]
    have := als_at r i (by simpa using h)
    simpa [als] using this
theorem als_one (ds : List Alm) : ∀ u ∈ als ds, u.oneCell' = true := by
  induction ds with
  | nil => simp [als]
  | cons x r ih =>
    intro u hu
    simp only [als, List.mem_cons] at hu
    rcases hu with rfl | rfl | rfl | hu
    · rfl
    · rfl
    · rfl
    · exact ih u hu
/-- a slice of alarms, its owner's alone -/
def OwnA (B : Nat) (w : World) (v : Value) (ds : List Alm) : Prop := w.ownsRow B 60 3 v ds.length (als ds)
theorem OwnA.buts {B : Nat} {w w' : World} {v : Value} {ds : List Alm} {l : List Nat} (h : OwnA B w v ds) (hb : Buts l w w') (hl : ∀ g, v.ownBlock = some g → g ∉ l) : OwnA B w' v ds := owns_buts h hb hl
theorem OwnA.below {B : Nat} {w w' : World} {v : Value} {ds : List Alm} (h : OwnA B w v ds) (hb : Below w.heap.size w w') : OwnA B w' v ds := h.buts (l := []) (Buts.of hb) (fun _ _ => by simp)
theorem OwnA.lt' {B : Nat} {w : World} {v : Value} {ds : List Alm} (h : OwnA B w v ds) {g : Nat} (hg : v.ownBlock = some g) : B ≤ g ∧ g < w.heap.size := World.ownsRow.lt h g hg
theorem OwnA.kind {B : Nat} {w : World} {v : Value} {ds : List Alm} (h : OwnA B w v ds) {g : Nat} (hg : v.ownBlock = some g) : ∃ cur, w.heap[g]? = some (.cells cur 60 (0, 0)) := by
  rcases h.2 with ⟨rfl, _⟩ | ⟨g', cap, cur, rfl, _, hh, _⟩
  · simp [Value.ownBlock] at hg
  · obtain rfl : g' = g := by simpa [Value.ownBlock] using hg
    exact ⟨cur, hh⟩
theorem OwnA.form {B : Nat} {w : World} {v : Value} {ds : List Alm} (h : OwnA B w v ds) : ∃ sp cap, v = .slice sp ds.length cap ∧ ds.length ≤ cap ∧ cap ≤ maxLen ∧ (sp = none → ds.length = 0 ∧ cap = 0) := by
  rcases h.2 with ⟨rfl, h0⟩ | ⟨g, cap, cur, rfl, _, _, hc, hm, _⟩
  · exact ⟨none, 0, by rw [h0], by omega, by simp [maxLen], fun _ => ⟨h0, rfl⟩⟩
  · exact ⟨_, cap, rfl, hc, hm, fun h => by cases h⟩
theorem OwnA.spot {B : Nat} {w : World} {v : Value} {ds : List Alm} (h : OwnA B w v ds) (hn : 0 < ds.length) : ∃ g cap, v = .slice (some ⟨g, 0, none⟩) ds.length cap ∧ ds.length ≤ cap ∧ cap ≤ maxLen := owns_spot h hn
theorem OwnA.cells {B : Nat} {w : World} {g n cap : Nat} {ds : List Alm} (h : OwnA B w (.slice (some ⟨g, 0, none⟩) n cap) ds) (hn : n = ds.length) (i : Nat) (hi : i < ds.length) :
    w.cell? ⟨g, i * 3, none⟩ = some (.int .i64 (ds.getD i (0, 0, 0)).1) ∧ w.cell? ⟨g, i * 3 + 1, none⟩ = some (.int .i64 (ds.getD i (0, 0, 0)).2.1) ∧ w.cell? ⟨g, i * 3 + 2, none⟩ = some (.int .i64 (ds.getD i (0, 0, 0)).2.2) := by
  subst hn
  have h' : w.ownsRow B 60 3 (.slice (some ⟨g, 0, none⟩) ds.length cap) ds.length (als ds) := h
  rw [h'.cellAt (i * 3) (by omega), h'.cellAt (i * 3 + 1) (by omega), h'.cellAt (i * 3 + 2) (by omega)]
  exact als_at ds i hi
theorem OwnA.nil (w : World) (B : Nat) : OwnA B w (.slice none 0 0) [] := World.ownsRow_nil _ _ _ _
def Arg3 (w : World) (vb : Nat) (x : Alm) : Prop := ∃ t, w.heap[vb]? = some (.cells #[.int .i64 x.1, .int .i64 x.2.1, .int .i64 x.2.2] t (0, 0))
theorem Arg3.cells {w : World} {vb : Nat} {x : Alm} (h : Arg3 w vb x) : ∀ j u, (als [x])[j]? = some u → w.cell? ((⟨vb, 0, none⟩ : Addr).add j) = some u := by
  obtain ⟨t, h⟩ := h
  intro j u hj
  rw [addr_add, Nat.zero_add, cell_of h]
  rcases j with _ | _ | _ | j
  · simpa [als] using hj
  · simpa [als] using hj
  · simpa [als] using hj
  · simp [als] at hj
theorem aown_to {B : Nat} {w : World} {v : Value} {ds es : List Alm} (h : w.ownsRow B 60 3 v (ds.length + es.length) (als ds ++ als es)) : OwnA B w v (ds ++ es) := by
  unfold OwnA
  rw [List.length_append, als_app]
  exact h
/-- one more behind all -/
theorem wpList_aapp {w : World} {ops : Array Oper} {rest : List Oper} {o : Oper} {a : Go.Act} {Q : Exit → Go.Act → World → Prop} (hgd : o.guard = none) (s y : Operand)
    (ho : o.op = .call { callee := .builtin .append, args := #[s, y], argTypes := #[54, 54] }) {B : Nat} {v : Value} {ds : List Alm} {vb n : Nat} {x : Alm} (hse : a.eval s = v) (hy : a.eval y = .slice (some ⟨vb, 0, none⟩) 1 1)
    (h : OwnA B w v ds) (hn : ds.length = n) (hl : n ≤ 2000) (hx : Arg3 w vb x) (hB : B ≤ w.heap.size)
    (hK : ∀ g cap w', Hid (OwnA B w' (.slice (some ⟨g, 0, none⟩) (n + 1) cap) (ds ++ [x])) → Hid (Buts v.ownBlock.toList w w') → Hid (v.ownBlock = some g ∨ w.heap.size ≤ g) → wpList Tryd.prog ops Q rest (a.put o.dst (.slice (some ⟨g, 0, none⟩) (n + 1) cap)) w') : wpList Tryd.prog ops Q (o :: rest) a w := by
  refine wpList_plain hgd fun K hK' => ?_
  obtain ⟨i, hi, hz, hs, hby⟩ := info_parts' infoS
  obtain ⟨v', w', hr, h2, h3, _, h5⟩ := run_append_own_at (P := Tryd.prog) (w := w) B 54 o.type 60 i _ 3 24 Tryd.underlying54 hi hz hs hby rfl (by decide) v ds.length (als ds) h ⟨vb, 0, none⟩ 1 1 (als [x]) rfl hx.cells (als_one _) (by simp only [maxLen]; omega) (by omega) hB
  obtain ⟨g, cap, e, _⟩ := owns_spot h2 (by omega)
  subst e
  subst hn
  have h2' : OwnA B w' (.slice (some ⟨g, 0, none⟩) (ds.length + 1) cap) (ds ++ [x]) := aown_to h2
  unfold Oper.wp execOp
  simp only [ho, resolve, invoke, builtin, Sem.run_bind, Sem.run_pure, Result.andThen_ok, List.map_toArray, List.map_cons, List.map_nil, hse, hy, hr]
  refine hK' _ _ (hK g cap w' h2' (Buts.grown h3) ?_)
  rcases h5 with e | e
  · exact Or.inl e.symm
  · have : g = w.heap.size := by simpa [Value.ownBlock] using e
    exact Or.inr (by omega)
/-- one more number behind all -/
theorem wpList_napp {w : World} {ops : Array Oper} {rest : List Oper} {o : Oper} {a : Go.Act} {Q : Exit → Go.Act → World → Prop} (hgd : o.guard = none) (s y : Operand)
    (ho : o.op = .call { callee := .builtin .append, args := #[s, y], argTypes := #[43, 43] }) {B : Nat} {v : Value} {D : List Int} {vb n : Nat} {x : Int} (hse : a.eval s = v) (hy : a.eval y = .slice (some ⟨vb, 0, none⟩) 1 1)
    (h : w.ownsRow B 3 1 v n (num D)) (hn : D.length = n) (hl : n ≤ 2000) (hx : w.cell? ⟨vb, 0, none⟩ = some (.int .i64 x)) (hB : B ≤ w.heap.size)
    (hK : ∀ g cap w', Hid (w'.ownsRow B 3 1 (.slice (some ⟨g, 0, none⟩) (n + 1) cap) (n + 1) (num (D ++ [x]))) → Hid (Buts v.ownBlock.toList w w') → wpList Tryd.prog ops Q rest (a.put o.dst (.slice (some ⟨g, 0, none⟩) (n + 1) cap)) w') : wpList Tryd.prog ops Q (o :: rest) a w := by
  refine wpList_plain hgd fun K hK' => ?_
  obtain ⟨i, hi, hz, hs, hby⟩ := info_parts' infoW
  subst hn
  obtain ⟨v', w', hr, h2, h3, _⟩ := run_append_own (P := Tryd.prog) w B 43 o.type 3 i _ 1 8 Tryd.underlying43 hi hz hs hby rfl (by decide) v D.length (num D) h ⟨vb, 0, none⟩ 1 1 (num [x]) rfl (by
    intro j u hj
    rw [addr_add, Nat.zero_add]
    rcases j with _ | j
    · have : u = .int .i64 x := by simpa [num] using hj.symm
      rw [this]; exact hx
    · simp [num] at hj) (by simp [num, Value.oneCell']) (by simp only [maxLen]; omega) (by omega) hB
  obtain ⟨g, cap, e, _⟩ := owns_spot h2 (by omega)
  subst e
  unfold Oper.wp execOp
  simp only [ho, resolve, invoke, builtin, Sem.run_bind, Sem.run_pure, Result.andThen_ok, List.map_toArray, List.map_cons, List.map_nil, hse, hy, hr]
  exact hK' _ _ (hK g cap w' (show World.ownsRow _ _ _ _ _ _ _ by have e2 : num (D ++ [x]) = num D ++ num [x] := by simp [num]
                                                                  rw [e2]; exact h2) (Buts.grown h3))
theorem run_append_none {P : Program} (w : World) (t ty e : TypeId) (i : TypeInfo) (k : TypeId) (ht : P.underlying t = some (.slice e)) (hi : P.info? e = some i) (sp : Option Addr) (n c : Nat) (hc : n ≤ c) :
    (Builtin.append_ #[t, t] ty #[.slice sp n c, .slice none 0 0]).run P w = .ok (.slice sp n c) w := by
  cases sp <;> simp [Builtin.append_, run_underlying ht, sizeOf, typeInfo, hi, Builtin.lenOf, hc, Builtin.firstCells, storeCells]
/-- a row behind a row -/
theorem wpList_arow {w : World} {ops : Array Oper} {rest : List Oper} {o : Oper} {a : Go.Act} {Q : Exit → Go.Act → World → Prop} (hgd : o.guard = none) (s y : Operand)
    (ho : o.op = .call { callee := .builtin .append, args := #[s, y], argTypes := #[54, 54] }) {B C : Nat} {v u : Value} {ds es : List Alm} (hse : a.eval s = v) (hy : a.eval y = u)
    (h : OwnA B w v ds) (h2 : OwnA C w u es) (hl : ds.length + es.length ≤ 2000) (hB : B ≤ w.heap.size)
    (hK : ∀ sp n cap w', Hid (OwnA B w' (.slice sp n cap) (ds ++ es)) → Hid (Buts v.ownBlock.toList w w') → wpList Tryd.prog ops Q rest (a.put o.dst (.slice sp n cap)) w') : wpList Tryd.prog ops Q (o :: rest) a w := by
  refine wpList_plain hgd fun K hK' => ?_
  obtain ⟨i, hi, hz, hs, hby⟩ := info_parts' infoS
  rcases h2.2 with ⟨rfl, h0⟩ | ⟨g, cap, cur, rfl, _, hh, hc, hm, _⟩
  · obtain rfl : es = [] := List.eq_nil_of_length_eq_zero h0
    obtain ⟨sp, cap, rfl, hc, _⟩ := h.form
    have hr := run_append_none (P := Tryd.prog) w 54 o.type 60 i 60 Tryd.underlying54 hi sp ds.length cap hc
    unfold Oper.wp execOp
    simp only [ho, resolve, invoke, builtin, Sem.run_bind, Sem.run_pure, Result.andThen_ok, List.map_toArray, List.map_cons, List.map_nil, hse, hy, hr]
    exact hK' _ _ (hK sp _ cap w (by rw [List.append_nil]; exact h) (Buts.refl _ _))
  · have hx : ∀ j u, (als es)[j]? = some u → w.cell? ((⟨g, 0, none⟩ : Addr).add j) = some u := by
      intro j u hj
      have hj' : j < es.length * 3 := by
        rcases Nat.lt_or_ge j (es.length * 3) with k | k
        · exact k
        · rw [List.getElem?_eq_none (by rw [als_len]; exact k)] at hj; cases hj
      rw [addr_add, Nat.zero_add, World.ownsRow.cellAt h2 j hj']
      exact hj
    obtain ⟨v', w', hr, h3, h4, _⟩ := run_append_own (P := Tryd.prog) w B 54 o.type 60 i _ 3 24 Tryd.underlying54 hi hz hs hby rfl (by decide) v ds.length (als ds) h ⟨g, 0, none⟩ es.length cap (als es) (als_len es) hx (als_one _) (by simp only [maxLen]; omega) (by omega) hB
    have h3' := aown_to h3
    obtain ⟨sp, cap', rfl, _⟩ := h3'.form
    unfold Oper.wp execOp
    simp only [ho, resolve, invoke, builtin, Sem.run_bind, Sem.run_pure, Result.andThen_ok, List.map_toArray, List.map_cons, List.map_nil, hse, hy, hr]
    exact hK' _ _ (hK sp _ cap' w' h3' (Buts.grown h4))
/-- the document's own alarms at block q -/
structure KR (B : Nat) (w : World) (q : Nat) (v : Value) (zs : List Alm) : Prop where
  head : w.heap[q]? = some (.cells #[v] 56 (0, 0))
  own : OwnA B w v zs
  low : B ≤ q
  len : zs.length ≤ 1000
theorem KR.buts {B : Nat} {w w' : World} {q : Nat} {v : Value} {zs : List Alm} {l : List Nat} (h : KR B w q v zs) (hb : Buts l w w') (hq : q ∉ l) (hl : ∀ g, v.ownBlock = some g → g ∉ l) : KR B w' q v zs :=
  ⟨(hb.block q (at_lt h.head) hq).trans h.head, h.own.buts hb hl, h.low, h.len⟩
theorem KR.below {B : Nat} {w w' : World} {q : Nat} {v : Value} {zs : List Alm} (h : KR B w q v zs) (hb : Below w.heap.size w w') : KR B w' q v zs :=
  h.buts (l := []) (Buts.of hb) (by simp) (fun _ _ => by simp)
theorem KR.ne {B : Nat} {w : World} {q : Nat} {v : Value} {zs : List Alm} (h : KR B w q v zs) {g : Nat} (hg : v.ownBlock = some g) : q ≠ g := by
  rintro rfl
  obtain ⟨cur, hc⟩ := h.own.kind hg
  rw [h.head] at hc
  simp at hc
theorem KR.lnk {B : Nat} {w : World} {q : Nat} {v : Value} {zs : List Alm} (h : KR B w q v zs) : w.cell? ⟨q, 0, none⟩ = some v := by rw [cell_of h.head]; rfl
theorem KR.fp {B : Nat} {w : World} {q : Nat} {v : Value} {zs : List Alm} (h : KR B w q v zs) (i : Nat) : w.frozen? ⟨q, i, none⟩ = false := by simp [World.frozen?, h.head]
/-- what a call of such leaves behind -/
def RN (B : Nat) (w w' : World) (q : Nat) (v : Value) (zs : List Alm) : Prop := ∃ v', KR B w' q v' zs ∧ Buts (q :: v.ownBlock.toList) w w' ∧ ∀ g, v'.ownBlock = some g → v.ownBlock = some g ∨ w.heap.size ≤ g
theorem KR.next {B : Nat} {w w' : World} {q : Nat} {v : Value} {zs : List Alm} (h : KR B w q v zs) (hb : Below w.heap.size w w') : RN B w w' q v zs := ⟨v, h.below hb, Buts.of hb, fun g hg => Or.inl hg⟩
/-- a new row is laid into its head -/
theorem KR.lay {B : Nat} {w w2 : World} {q : Nat} {v v' : Value} {zs es : List Alm} (h : KR B w q v zs) (ho : OwnA w.heap.size w2 v' es) (hb : Below w.heap.size w w2) (hl : es.length ≤ 1000) (hB : B ≤ w.heap.size) :
    RN B w (w2.setCell ⟨q, 0, none⟩ v') q v es := by
  have hp : w2.heap[q]? = some (.cells #[v] 56 (0, 0)) := (hb.block q (at_lt h.head)).trans h.head
  refine ⟨v', ⟨by rw [set_block hp]; rfl, OwnA.buts (l := [q]) (show OwnA B w2 v' es from owns_base ho hB) (Buts.cell _ _ _ _) (fun g hg hm => ?_), h.low, hl⟩, (Buts.of hb).trans ((Buts.cell _ _ _ _).mono (by simp)), fun g hg => Or.inr (ho.lt' hg).1⟩
  obtain rfl : g = q := by simpa using hm
  obtain ⟨cur, hc⟩ := ho.kind hg
  rw [hp] at hc
  simp at hc
/-- what is read of it -/
theorem KR.seq {B : Nat} {w : World} {q : Nat} {v : Value} {zs : List Alm} (h : KR B w q v zs) :
    ∃ sp g cap, v = .slice sp zs.length cap ∧ (0 < zs.length → sp = some ⟨g, 0, none⟩) ∧ g < w.heap.size ∧
      ∀ k, k < zs.length → w.cell? ⟨g, k * 3, none⟩ = some (.int .i64 (zs.getD k (0, 0, 0)).1) ∧ w.cell? ⟨g, k * 3 + 1, none⟩ = some (.int .i64 (zs.getD k (0, 0, 0)).2.1) ∧ w.cell? ⟨g, k * 3 + 2, none⟩ = some (.int .i64 (zs.getD k (0, 0, 0)).2.2) := by
  by_cases h0 : 0 < zs.length
  · obtain ⟨g, cap, hv, hc, hm⟩ := h.own.spot h0
    have hown := h.own
    rw [hv] at hown
    exact ⟨_, g, cap, hv, fun _ => rfl, (hown.lt' (g := g) rfl).2, fun k hk => hown.cells rfl k hk⟩
  · obtain ⟨sp, cap, hv, hc, hm, _⟩ := h.own.form
    exact ⟨sp, q, cap, hv, fun h => absurd h h0, at_lt h.head, fun k hk => by omega⟩
end Go.Proofs.YtciafjmljmeimaaDoor
