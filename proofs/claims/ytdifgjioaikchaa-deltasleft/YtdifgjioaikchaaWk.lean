/- Who wakes when, of sleepers 0 and on; no law of the program itself. -/
import Derived.Test.YtdifgjioaikchaaSeen
namespace Go.Proofs.Ytdifgjioaikchaa
open Go Go.RowKit
set_option maxRecDepth 100000
set_option linter.unusedVariables false
set_option linter.unusedSimpArgs false
/-- those left, so many ticks later -/
def aft (ys : List (Int × Int)) (t : Int) : List (Int × Int) := (ys.filter (fun y => decide (t < y.2))).map (fun y => (y.1, y.2 - t))
/-- those that wake at a tick -/
def atT (ys : List (Int × Int)) (t : Int) : List Int := (ys.filter (fun y => decide (y.2 = t + 1))).map Prod.fst
theorem aft_zero {ys : List (Int × Int)} (h : ∀ y ∈ ys, 1 ≤ y.2) : aft ys 0 = ys := by
  unfold aft
  rw [List.filter_eq_self.2 (fun y hy => by have := h y hy; simp; omega)]
  induction ys with
  | nil => rfl
  | cons y r ih => simp [ih (fun z hz => h z (by simp [hz]))]
theorem aft_woke (ys : List (Int × Int)) (t : Int) : woke (aft ys t) = atT ys t := by
  unfold woke aft atT
  rw [List.filter_map, List.map_map, List.filter_filter]
  have e : ys.filter (fun a => ((fun y : Int × Int => decide (y.2 = 1)) ∘ fun y : Int × Int => (y.1, y.2 - t)) a && decide (t < a.2)) = ys.filter (fun y => decide (y.2 = t + 1)) := by
    apply List.filter_congr
    intro y _
    simp only [Function.comp]
    rw [Bool.eq_iff_iff]
    simp
    omega
  rw [e]
  rfl
theorem aft_rest (ys : List (Int × Int)) (t : Int) : rest (aft ys t) = aft ys (t + 1) := by
  unfold rest aft
  rw [List.filter_map, List.map_map, List.filter_filter]
  have e : ys.filter (fun a => ((fun y : Int × Int => decide (y.2 ≠ 1)) ∘ fun y : Int × Int => (y.1, y.2 - t)) a && decide (t < a.2)) = ys.filter (fun y => decide (t + 1 < y.2)) := by
    apply List.filter_congr
    intro y _
    simp only [Function.comp]
    rw [Bool.eq_iff_iff]
    simp
    omega
  rw [e]
  apply List.map_congr_left
  intro y _
  simp only [Function.comp, dec, Prod.mk.injEq, true_and]
  omega
theorem atT_app (a b : List (Int × Int)) (t : Int) : atT (a ++ b) t = atT a t ++ atT b t := by simp [atT]
theorem fil_succ (zs : List Int) (i : Nat) : fil zs (i + 1) = fil zs i ++ [((i : Int), zs.getD i 0 + 1)] := by simp [fil, List.range_succ]
theorem atT_fil_yes {zs : List Int} {i : Nat} {t : Int} (h : zs.getD i 0 = t) : atT (fil zs (i + 1)) t = atT (fil zs i) t ++ [(i : Int)] := by
  rw [fil_succ, atT_app]
  congr 1
  rw [h]
  simp [atT]
theorem atT_fil_no {zs : List Int} {i : Nat} {t : Int} (h : zs.getD i 0 ≠ t) : atT (fil zs (i + 1)) t = atT (fil zs i) t := by
  rw [fil_succ, atT_app]
  have : atT [((i : Int), zs.getD i 0 + 1)] t = [] := by
    unfold atT
    rw [List.filter_cons, if_neg (fun e => h (by have := of_decide_eq_true e; simp only at this; omega))]
    rfl
  rw [this, List.append_nil]
theorem atT_len (ys : List (Int × Int)) (t : Int) : (atT ys t).length ≤ ys.length := by
  unfold atT
  rw [List.length_map]
  exact List.length_filter_le _ _
theorem fil_mem {zs : List Int} {i : Nat} {y : Int × Int} (h : y ∈ fil zs i) : ∃ k : Nat, k < i ∧ y = ((k : Int), zs.getD k 0 + 1) := by
  obtain ⟨k, hk, rfl⟩ := List.mem_map.1 h
  exact ⟨k, List.mem_range.1 hk, rfl⟩
theorem aft_none {ys : List (Int × Int)} {t : Int} (h : ∀ y ∈ ys, y.2 ≤ t) : aft ys t = [] := by
  unfold aft
  rw [List.filter_eq_nil_iff.2 (fun y hy => by have := h y hy; simp; omega)]
  rfl
/-- one more behind a row of one's own -/
theorem want_app {w : World} {B : Nat} {vs : Option Addr} {n vc : Nat} {zs : List Int} (h : w.ownsRow B 3 1 (.slice vs n vc) n (num zs)) (hn : n ≤ 1000) (hB : B ≤ w.heap.size) (x : Int) :
    ∃ g c w', (Builtin.append_ #[34, 34] 34 #[.slice vs n vc, .slice (some ⟨w.heap.size, 0, none⟩) 1 1]).run Try.prog (w.alloc (.cells #[.int .i64 x] 3)) = .ok (.slice (some ⟨g, 0, none⟩) (n + 1) c) w' ∧ w'.ownsRow B 3 1 (.slice (some ⟨g, 0, none⟩) (n + 1) c) (n + 1) (num (zs ++ [x])) ∧ Below B w w' ∧ ∀ (k : Nat) (cs : Array Value) (t : TypeId) (f : Nat × Nat), t ≠ 3 → w.heap[k]? = some (.cells cs t f) → w'.heap[k]? = some (.cells cs t f) := by
  obtain ⟨i0, hi, hz, hs, hby⟩ := info_parts' infoW
  obtain ⟨v', w', hr, ho, hg, _⟩ := run_append_own (P := Try.prog) (w.alloc (.cells #[.int .i64 x] 3)) B 34 34 3 i0 _ 1 8 Try.underlying34 hi hz hs hby rfl (by decide) (.slice vs n vc) n (num zs) (h.alloc _) ⟨w.heap.size, 0, none⟩ 1 1 [.int .i64 x] rfl (cell1 w (.int .i64 x) 3) (by simp [Value.oneCell']) (by simp only [maxLen]; omega) (by omega) (by rw [alloc_size]; omega)
  obtain ⟨g, c, rfl, _⟩ := owns_spot ho (by omega)
  have e : num (zs ++ [x]) = num zs ++ [.int .i64 x] := by simp [num]
  refine ⟨g, c, w', hr, by rw [e]; exact ho, ?_, fun k cs t f ht hk => ?_⟩
  · refine ((alloc_below w (.cells #[.int .i64 x] 3)).mono hB).trans ?_
    exact (Buts.grown hg).below (fun b hb => (h.lt b (by simpa using hb)).1) (by rw [alloc_size]; omega)
  · rw [hg.block k (by rw [alloc_size]; have := at_lt hk; omega) (fun e => ?_)]
    · exact ((alloc_below w _).block k (at_lt hk)).trans hk
    · rcases h.2 with ⟨h1, _⟩ | ⟨g', cap, cur, h1, _, hh, _⟩
      · rw [h1] at e; cases e
      · rw [h1] at e
        obtain rfl : k = g' := by simpa [Value.ownBlock] using e
        rw [hk] at hh
        simp only [Option.some.injEq, Obj.cells.injEq] at hh
        exact ht hh.2.1
theorem At.grow {B : Nat} {w0 w w' : World} {p : Nat} {ys : List (Int × Int)} (h : At B w0 w p ys) (hb : Below B w w') (hk : ∀ (k : Nat) (cs : Array Value) (t : TypeId) (f : Nat × Nat), t ≠ 3 → w.heap[k]? = some (.cells cs t f) → w'.heap[k]? = some (.cells cs t f)) : At B w0 w' p ys := by
  obtain ⟨⟨v, hv⟩, h2, h3⟩ := h
  refine ⟨⟨v, ⟨⟨hk _ _ _ _ (by decide) hv.ch.head, owns_of hv.ch.own (fun g hg => ?_), hv.ch.len, hv.ch.low⟩, hv.good⟩⟩, h2.trans hb, h3⟩
  obtain ⟨cur, hc⟩ := hv.ch.own.kind hg
  rw [hc]
  exact hk _ _ _ _ (by decide) hc
theorem wpList_want {w : World} {ops : Array Oper} {rest : List Oper} {o : Oper} {a : Go.Act} {Q : Exit → Go.Act → World → Prop} (hgd : o.guard = none) (s y : Operand)
    (ho : o.op = .call { callee := .builtin .append, args := #[s, y], argTypes := #[34, 34] }) (hty : o.type = 34) {B : Nat} {vs : Option Addr} {n vc : Nat} {zs : List Int} {x : Int} (hse : a.eval s = .slice vs n vc) (hy : a.eval y = .slice (some ⟨w.heap.size, 0, none⟩) 1 1)
    (h : w.ownsRow B 3 1 (.slice vs n vc) n (num zs)) (hn : n ≤ 1000) (hB : B ≤ w.heap.size)
    (hK : ∀ g c w', Hid (w'.ownsRow B 3 1 (.slice (some ⟨g, 0, none⟩) (n + 1) c) (n + 1) (num (zs ++ [x]))) → Hid (Below B w w') → Hid (∀ (k : Nat) (cs : Array Value) (t : TypeId) (f : Nat × Nat), t ≠ 3 → w.heap[k]? = some (.cells cs t f) → w'.heap[k]? = some (.cells cs t f)) → wpList Try.prog ops Q rest (a.put o.dst (.slice (some ⟨g, 0, none⟩) (n + 1) c)) w') : wpList Try.prog ops Q (o :: rest) a (w.alloc (.cells #[.int .i64 x] 3)) := by
  refine wpList_plain hgd fun K hK' => ?_
  obtain ⟨g, c, w', hr, h2, h3, h4⟩ := want_app h hn hB x
  unfold Oper.wp execOp
  simp only [ho, resolve, invoke, builtin, Sem.run_bind, Sem.run_pure, Result.andThen_ok, List.map_toArray, List.map_cons, List.map_nil, hse, hy]
  rw [hty, hr]
  exact hK' _ _ (hK g c w' h2 h3 h4)
end Go.Proofs.Ytdifgjioaikchaa
