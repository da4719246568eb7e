/- The document's own list, as it lies in memory. -/
import Derived.Test.YtdifgjioaikchaaDoorSame
import Derived.ArgAppend
namespace Go.Proofs.YtdifgjioaikchaaDoor
open Go Go.RowKit
set_option maxRecDepth 100000
set_option linter.unusedVariables false
set_option linter.unusedSimpArgs false
theorem infoS : (Tryd.prog.info? 60).map (fun i => (i.zero, i.size, i.bytes)) = some (some (.agg #[.int .i64 0, .int .i64 0]), 2, 16) := by kernel_rfl
/-- a slice of links, its owner's alone -/
def OwnS (B : Nat) (w : World) (v : Value) (ds : List (Int × Int)) : Prop := w.ownsRow B 60 2 v ds.length (lks ds)
theorem OwnS.buts {B : Nat} {w w' : World} {v : Value} {ds : List (Int × Int)} {l : List Nat} (h : OwnS B w v ds) (hb : Buts l w w') (hl : ∀ g, v.ownBlock = some g → g ∉ l) : OwnS B w' v ds := owns_buts h hb hl
theorem OwnS.below {B : Nat} {w w' : World} {v : Value} {ds : List (Int × Int)} (h : OwnS B w v ds) (hb : Below w.heap.size w w') : OwnS B w' v ds := h.buts (l := []) (Buts.of hb) (fun _ _ => by simp)
theorem OwnS.lt' {B : Nat} {w : World} {v : Value} {ds : List (Int × Int)} (h : OwnS B w v ds) {g : Nat} (hg : v.ownBlock = some g) : B ≤ g ∧ g < w.heap.size := World.ownsRow.lt h g hg
theorem OwnS.kind {B : Nat} {w : World} {v : Value} {ds : List (Int × Int)} (h : OwnS B w v ds) {g : Nat} (hg : v.ownBlock = some g) : ∃ cur, w.heap[g]? = some (.cells cur 60 (0, 0)) := by
  rcases h.2 with ⟨rfl, _⟩ | ⟨g', cap, cur, rfl, _, hh, _⟩
  · simp [Value.ownBlock] at hg
  · obtain rfl : g' = g := by simpa [Value.ownBlock] using hg
    exact ⟨cur, hh⟩
theorem OwnS.form {B : Nat} {w : World} {v : Value} {ds : List (Int × Int)} (h : OwnS B w v ds) : ∃ sp cap, v = .slice sp ds.length cap ∧ ds.length ≤ cap ∧ cap ≤ maxLen ∧ (sp = none → ds.length = 0 ∧ cap = 0) := by
  rcases h.2 with ⟨rfl, h0⟩ | ⟨g, cap, cur, rfl, _, _, hc, hm, _⟩
  · exact ⟨none, 0, by rw [h0], by omega, by simp [maxLen], fun _ => ⟨h0, rfl⟩⟩
  · exact ⟨_, cap, rfl, hc, hm, fun h => by cases h⟩
theorem OwnS.spot {B : Nat} {w : World} {v : Value} {ds : List (Int × Int)} (h : OwnS B w v ds) (hn : 0 < ds.length) : ∃ g cap, v = .slice (some ⟨g, 0, none⟩) ds.length cap ∧ ds.length ≤ cap ∧ cap ≤ maxLen := owns_spot h hn
theorem OwnS.cells {B : Nat} {w : World} {g n cap : Nat} {ds : List (Int × Int)} (h : OwnS B w (.slice (some ⟨g, 0, none⟩) n cap) ds) (hn : n = ds.length) (i : Nat) (hi : i < ds.length) :
    w.cell? ⟨g, i * 2, none⟩ = some (.int .i64 (ds.getD i (0, 0)).1) ∧ w.cell? ⟨g, i * 2 + 1, none⟩ = some (.int .i64 (ds.getD i (0, 0)).2) := by
  subst hn
  have h' : w.ownsRow B 60 2 (.slice (some ⟨g, 0, none⟩) ds.length cap) ds.length (lks ds) := h
  rw [h'.cellAt (i * 2) (by omega), h'.cellAt (i * 2 + 1) (by omega)]
  exact lks_at ds i hi
theorem OwnS.free {B : Nat} {w : World} {g n cap : Nat} {ds : List (Int × Int)} (h : OwnS B w (.slice (some ⟨g, 0, none⟩) n cap) ds) (i : Nat) : w.frozen? ⟨g, i, none⟩ = false := by
  obtain ⟨cur, hh⟩ := h.kind (g := g) rfl
  simp [World.frozen?, hh]
theorem OwnS.set {B : Nat} {w : World} {g cap : Nat} {ds : List (Int × Int)} (h : OwnS B w (.slice (some ⟨g, 0, none⟩) ds.length cap) ds) (k : Nat) (hk : k < ds.length) (z : Int) :
    OwnS B (w.setCell ⟨g, k * 2 + 1, none⟩ (.int .i64 z)) (.slice (some ⟨g, 0, none⟩) ds.length cap) (ds.set k ((ds.getD k (0, 0)).1, z)) := by
  have h' : w.ownsRow B 60 2 (.slice (some ⟨g, 0, none⟩) ds.length cap) ds.length (lks ds) := h
  have := (h'.stored (k * 2 + 1) (.int .i64 z)).1
  rw [lks_set ds k z hk] at this
  unfold OwnS
  rw [List.length_set]
  exact this
theorem sdrop_cells {w : World} {B g n cap : Nat} {ds : List (Int × Int)} (h : OwnS B w (.slice (some ⟨g, 0, none⟩) n cap) ds) (hn : n = ds.length) (k : Nat) : ∀ j u, (lks (ds.drop k))[j]? = some u → w.cell? ((⟨g, k * 2, none⟩ : Addr).add j) = some u := by
  subst hn
  intro j u hj
  rw [lks_drop, List.getElem?_drop] at hj
  have hlt : k * 2 + j < ds.length * 2 := by
    rcases Nat.lt_or_ge (k * 2 + j) (ds.length * 2) with c | c
    · exact c
    · rw [List.getElem?_eq_none (by rw [lks_len]; exact c)] at hj; cases hj
  have h' : w.ownsRow B 60 2 (.slice (some ⟨g, 0, none⟩) ds.length cap) ds.length (lks ds) := h
  rw [addr_add, h'.cellAt _ hlt]
  exact hj
theorem sown_to {B : Nat} {w : World} {v : Value} {ds : List (Int × Int)} {n : Nat} {x : Int × Int} (hn : n = ds.length) (h : w.ownsRow B 60 2 v (n + 1) (lks ds ++ lks [x])) : OwnS B w v (ds ++ [x]) := by
  unfold OwnS
  rw [List.length_append, lks_app, ← hn]
  exact h
/-- one more behind all: in its place, or in a new row -/
theorem run_sapp {B : Nat} {w : World} {v : Value} {n : Nat} {ds : List (Int × Int)} (ty : TypeId) (h : OwnS B w v ds) (hn : n = ds.length) (hl : n ≤ 1000) {vb : Nat} {x : Int × Int} (hx : Arg w vb x) (hB : B ≤ w.heap.size) :
    ∃ g cap w', (Builtin.append_ #[26, 26] ty #[v, .slice (some ⟨vb, 0, none⟩) 1 1]).run Tryd.prog w = .ok (.slice (some ⟨g, 0, none⟩) (n + 1) cap) w' ∧ OwnS B w' (.slice (some ⟨g, 0, none⟩) (n + 1) cap) (ds ++ [x]) ∧ Buts v.ownBlock.toList w w' ∧ (v.ownBlock = some g ∨ w.heap.size ≤ g) := by
  obtain ⟨i, hi, hz, hs, hby⟩ := info_parts' infoS
  rcases h.2 with ⟨rfl, h0⟩ | ⟨g, cap, cur, rfl, hBb, hh, hc, hm, hsz, ht⟩
  · have hn0 : n = 0 := by omega
    subst hn0
    obtain rfl : ds = [] := List.eq_nil_of_length_eq_zero h0
    obtain ⟨v', w', hr, ho, hg, _⟩ := run_append_own (P := Tryd.prog) w w.heap.size 26 ty 60 i _ 2 16 Tryd.underlying26 hi hz hs hby rfl (by decide) (.slice none 0 0) 0 [] (World.ownsRow_nil _ _ _ _) ⟨vb, 0, none⟩ 1 1 (lks [x]) rfl hx.cells (lks_one _) (by decide) (by decide) (Nat.le_refl _)
    obtain ⟨g', c', rfl, _⟩ := owns_spot ho (by decide)
    exact ⟨g', c', w', hr, sown_to rfl (owns_base ho hB), by simpa [Value.ownBlock] using Buts.grown hg, Or.inr (ho.lt g' rfl).1⟩
  · by_cases hroom : ds.length + 1 ≤ cap
    · obtain ⟨w', hr, ho', hg⟩ := run_append_fits (P := Tryd.prog) w B 26 ty 60 i 2 Tryd.underlying26 hi hs g ds.length cap (lks ds) h ⟨vb, 0, none⟩ 1 1 (lks [x]) rfl hx.cells (lks_one _) hroom
      subst hn
      exact ⟨g, cap, w', hr, sown_to rfl ho', Buts.grown hg, Or.inl rfl⟩
    · obtain ⟨v', w', hr, ho, hg⟩ := run_append_arg_grows (P := Tryd.prog) w 26 ty 60 i _ 2 16 Tryd.underlying26 hi hz hs hby rfl (by decide) ⟨g, 0, none⟩ ds.length cap (lks ds) (lks_len ds) (by have := sdrop_cells h rfl 0; simpa using this) ⟨vb, 0, none⟩ 1 1 (lks [x]) rfl hx.cells (by omega) (by simp only [maxLen]; omega) (by omega)
      obtain ⟨g', c', rfl, _⟩ := owns_spot ho (by omega)
      subst hn
      exact ⟨g', c', w', hr, sown_to rfl (owns_base ho hB), (Buts.grown hg).mono (by simp), Or.inr (ho.lt g' rfl).1⟩
theorem wpList_sapp {w : World} {ops : Array Oper} {rest : List Oper} {o : Oper} {a : Go.Act} {Q : Exit → Go.Act → World → Prop} (hgd : o.guard = none) (s y : Operand)
    (ho : o.op = .call { callee := .builtin .append, args := #[s, y], argTypes := #[26, 26] }) {B : Nat} {v : Value} {n : Nat} {ds : List (Int × Int)} {vb : Nat} {x : Int × Int} (hse : a.eval s = v) (hy : a.eval y = .slice (some ⟨vb, 0, none⟩) 1 1)
    (h : OwnS B w v ds) (hn : n = ds.length) (hl : n ≤ 1000) (hx : Arg w vb x) (hB : B ≤ w.heap.size)
    (hK : ∀ g cap w', Hid (OwnS B w' (.slice (some ⟨g, 0, none⟩) (n + 1) cap) (ds ++ [x])) → Hid (Buts v.ownBlock.toList w w') → Hid (v.ownBlock = some g ∨ w.heap.size ≤ g) → wpList Tryd.prog ops Q rest (a.put o.dst (.slice (some ⟨g, 0, none⟩) (n + 1) cap)) w') : wpList Tryd.prog ops Q (o :: rest) a w := by
  refine wpList_plain hgd fun K hK' => ?_
  obtain ⟨g, cap, w', hr, h2, h3, h4⟩ := run_sapp o.type h hn hl hx hB
  unfold Oper.wp execOp
  simp only [ho, resolve, invoke, builtin, Sem.run_bind, Sem.run_pure, Result.andThen_ok, List.map_toArray, List.map_cons, List.map_nil, hse, hy, hr]
  exact hK' _ _ (hK g cap w' h2 h3 h4)
/-- a row of its own behind a row of its own -/
theorem wpList_srow {w : World} {ops : Array Oper} {rest : List Oper} {o : Oper} {a : Go.Act} {Q : Exit → Go.Act → World → Prop} (hgd : o.guard = none) (s y : Operand)
    (ho : o.op = .call { callee := .builtin .append, args := #[s, y], argTypes := #[26, 26] }) {B : Nat} {v : Value} {ds es : List (Int × Int)} {ad : Addr} {m c : Nat} (hse : a.eval s = v) (hy : a.eval y = .slice (some ad) m c)
    (h : OwnS B w v ds) (hm : es.length = m) (hl : ds.length + m ≤ 2000) (hx : ∀ j u, (lks es)[j]? = some u → w.cell? (ad.add j) = some u) (hB : B ≤ w.heap.size)
    (hK : ∀ sp n cap w', Hid (OwnS B w' (.slice sp n cap) (ds ++ es)) → Hid (Buts v.ownBlock.toList w w') → wpList Tryd.prog ops Q rest (a.put o.dst (.slice sp n cap)) w') : wpList Tryd.prog ops Q (o :: rest) a w := by
  refine wpList_plain hgd fun K hK' => ?_
  obtain ⟨i, hi, hz, hs, hby⟩ := info_parts' infoS
  subst hm
  obtain ⟨v', w', hr, h2, h3, _⟩ := run_append_own (P := Tryd.prog) w B 26 o.type 60 i _ 2 16 Tryd.underlying26 hi hz hs hby rfl (by decide) v ds.length (lks ds) h ad es.length c (lks es) (lks_len es) hx (lks_one _) (by simp only [maxLen]; omega) (by omega) hB
  have h2' : OwnS B w' v' (ds ++ es) := by unfold OwnS; rw [List.length_append, lks_app]; exact h2
  obtain ⟨sp, cap, rfl, _⟩ := h2'.form
  unfold Oper.wp execOp
  simp only [ho, resolve, invoke, builtin, Sem.run_bind, Sem.run_pure, Result.andThen_ok, List.map_toArray, List.map_cons, List.map_nil, hse, hy, hr]
  exact hK' _ _ (hK sp _ cap w' h2' (Buts.grown h3))
/-- the document's own list at block q -/
structure Ref (B : Nat) (w : World) (q : Nat) (v : Value) (ys : List (Int × Int)) : Prop where
  head : w.heap[q]? = some (.cells #[v] 28 (0, 0))
  own : OwnS B w v ys
  low : B ≤ q
  len : ys.length ≤ 1000
  good : Good ys
theorem Ref.buts {B : Nat} {w w' : World} {q : Nat} {v : Value} {ys : List (Int × Int)} {l : List Nat} (h : Ref B w q v ys) (hb : Buts l w w') (hq : q ∉ l) (hl : ∀ g, v.ownBlock = some g → g ∉ l) : Ref B w' q v ys :=
  ⟨(hb.block q (at_lt h.head) hq).trans h.head, h.own.buts hb hl, h.low, h.len, h.good⟩
theorem Ref.below {B : Nat} {w w' : World} {q : Nat} {v : Value} {ys : List (Int × Int)} (h : Ref B w q v ys) (hb : Below w.heap.size w w') : Ref B w' q v ys :=
  h.buts (l := []) (Buts.of hb) (by simp) (fun _ _ => by simp)
theorem Ref.ne {B : Nat} {w : World} {q : Nat} {v : Value} {ys : List (Int × Int)} (h : Ref B w q v ys) {g : Nat} (hg : v.ownBlock = some g) : q ≠ g := by
  rintro rfl
  obtain ⟨cur, hc⟩ := h.own.kind hg
  rw [h.head] at hc
  simp at hc
theorem Ref.lnk {B : Nat} {w : World} {q : Nat} {v : Value} {ys : List (Int × Int)} (h : Ref B w q v ys) : w.cell? ⟨q, 0, none⟩ = some v := by rw [cell_of h.head]; rfl
theorem Ref.fp {B : Nat} {w : World} {q : Nat} {v : Value} {ys : List (Int × Int)} (h : Ref B w q v ys) (i : Nat) : w.frozen? ⟨q, i, none⟩ = false := by simp [World.frozen?, h.head]
/-- what a call of such a list leaves behind -/
def RN (B : Nat) (w w' : World) (q : Nat) (v : Value) (ys : List (Int × Int)) : Prop := ∃ v', Ref B w' q v' ys ∧ Buts (q :: v.ownBlock.toList) w w' ∧ ∀ g, v'.ownBlock = some g → v.ownBlock = some g ∨ w.heap.size ≤ g
theorem Ref.next {B : Nat} {w w' : World} {q : Nat} {v : Value} {ys : List (Int × Int)} (h : Ref B w q v ys) (hb : Below w.heap.size w w') : RN B w w' q v ys := ⟨v, h.below hb, Buts.of hb, fun g hg => Or.inl hg⟩
theorem Ref.lay {B : Nat} {w w2 : World} {q : Nat} {v v' : Value} {ys es : List (Int × Int)} (h : Ref B w q v ys) (ho : OwnS B w2 v' es) (hb : Buts v.ownBlock.toList w w2) (hl : es.length ≤ 1000) (hg : Good es) (hne : ∀ g, v'.ownBlock = some g → v.ownBlock = some g ∨ w.heap.size ≤ g) :
    RN B w (w2.setCell ⟨q, 0, none⟩ v') q v es := by
  have hp : w2.heap[q]? = some (.cells #[v] 28 (0, 0)) := by
    rw [hb.block q (at_lt h.head) (fun hm => by
      have : v.ownBlock = some q := by simpa using hm
      exact h.ne this rfl)]
    exact h.head
  refine ⟨v', ⟨by rw [set_block hp]; rfl, ho.buts (Buts.cell _ _ _ _) (fun g hg hm => ?_), h.low, hl, hg⟩, (hb.mono (by simp; intro x hx; exact Or.inr hx)).trans ((Buts.cell _ _ _ _).mono (by simp)), hne⟩
  obtain rfl : g = q := by simpa using hm
  obtain ⟨cur, hc⟩ := ho.kind hg
  rw [hp] at hc
  simp at hc
/-- what is read of it -/
theorem Ref.seq {B : Nat} {w : World} {q : Nat} {v : Value} {ys : List (Int × Int)} (h : Ref B w q v ys) :
    ∃ sp g cap, v = .slice sp ys.length cap ∧ (0 < ys.length → sp = some ⟨g, 0, none⟩) ∧ g < w.heap.size ∧ ys.length ≤ cap ∧ cap ≤ maxLen ∧
      ∀ k, k < ys.length → w.cell? ⟨g, k * 2, none⟩ = some (.int .i64 (ys.getD k (0, 0)).1) ∧ w.cell? ⟨g, k * 2 + 1, none⟩ = some (.int .i64 (ys.getD k (0, 0)).2) := by
  by_cases h0 : 0 < ys.length
  · obtain ⟨g, cap, hv, hc, hm⟩ := h.own.spot h0
    have hown := h.own
    rw [hv] at hown
    exact ⟨_, g, cap, hv, fun _ => rfl, (hown.lt' (g := g) rfl).2, hc, hm, fun k hk => hown.cells rfl k hk⟩
  · obtain ⟨sp, cap, hv, hc, hm, _⟩ := h.own.form
    exact ⟨sp, q, cap, hv, fun h => absurd h h0, at_lt h.head, hc, hm, fun k hk => by omega⟩
set_option maxHeartbeats 1000000 in
theorem rat_any {B : Nat} {w : World} {q : Nat} {v : Value} {ys : List (Int × Int)} (h : Ref B w q v ys) (who : Int) :
    Calls Tryd.prog 20 #[.pointer (some ⟨q, 0, none⟩), .int .i64 who] w fun e w' => ((∃ k : Nat, k < ys.length ∧ (ys.getD k (0, 0)).1 = who ∧ e = .returned (.int .i64 (k : Int))) ∨ ((∀ k, k < ys.length → (ys.getD k (0, 0)).1 ≠ who) ∧ e = .returned (.int .i64 (-1)))) ∧ w = w' := by
  obtain ⟨sp, g, cap, hv, hsp, hgl, hc1, hc2, hcs⟩ := h.seq
  have hlk := h.lnk
  have hlen := h.len
  rw [hv] at hlk
  clear h hv hc1 hc2
  obtain ⟨f, hf⟩ : ∃ f : Nat → Int × Int, f = fun k => ys.getD k (0, 0) := ⟨_, rfl⟩
  have hcs' : ∀ k, k < ys.length → w.cell? ⟨g, k * 2, none⟩ = some (.int .i64 (f k).1) ∧ w.cell? ⟨g, k * 2 + 1, none⟩ = some (.int .i64 (f k).2) := by rw [hf]; exact hcs
  have HCS : Hid (∀ k, k < ys.length → w.cell? ⟨g, k * 2, none⟩ = some (.int .i64 (f k).1) ∧ w.cell? ⟨g, k * 2 + 1, none⟩ = some (.int .i64 (f k).2)) := hcs'
  suffices hS : Calls Tryd.prog 20 #[.pointer (some ⟨q, 0, none⟩), .int .i64 who] w fun e w' => ((∃ k : Nat, k < ys.length ∧ (f k).1 = who ∧ e = .returned (.int .i64 (k : Int))) ∨ ((∀ k, k < ys.length → (f k).1 ≠ who) ∧ e = .returned (.int .i64 (-1)))) ∧ w = w' by
    rw [hf] at hS
    exact hS
  clear hcs hcs' hf
  generalize ys.length = n at *
  go_enter Tryd.func20, Tryd.ntmps20
  go_wp2
  go_loopg [5] n (fun gk s5 wx => ∃ i : Nat, i + gk = n ∧ s5 = .int .i64 i ∧ w = wx ∧ Hid (∀ k, k < i → (f k).1 ≠ who))
  case atStart => exact ⟨0, by omega, rfl, rfl, fun k hk => by omega⟩
  case round =>
    obtain ⟨i, hig, rfl, rfl, HN⟩ := hrel
    cases gk with
    | zero =>
      obtain rfl : i = n := by omega
      have hlt : ¬ ((i : Int) < i) := by omega
      go_wp2
      go_ret
      exact ⟨Or.inr ⟨HN.out, rfl⟩, rfl⟩
    | succ g' =>
      have hlt : (i : Int) < n := by omega
      have hin : i < n := by omega
      obtain rfl := hsp (by omega)
      obtain ⟨c0, c1⟩ := HCS.out i hin
      obtain ⟨z, hz⟩ : ∃ z, (f i).1 = z := ⟨_, rfl⟩
      have HZ : Hid ((f i).1 = z) := hz
      rw [hz] at c0
      clear hz hsp c1
      by_cases hw : z = who
      · subst hw
        go_wp2
        go_ret
        exact ⟨Or.inl ⟨i, hin, HZ.out, rfl⟩, rfl⟩
      · go_wp2
        go_roundg g'
        case measure => omega
        case rel => exact ⟨i + 1, by omega, by go_num, rfl, fun k hk => by
          rcases Nat.lt_or_ge k i with c | c
          · exact HN.out k c
          · obtain rfl : k = i := by omega
            rw [HZ.out]; exact hw⟩
end Go.Proofs.YtdifgjioaikchaaDoor
