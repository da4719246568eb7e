/- What lies in memory: rows that are read, rows of one's own, links; blocks that stay as they were. No law of the program itself. -/
import Derived.Test.YtciafjmljmeimaaDoorDPure
import Derived.Laws.CopyOwn
import Derived.Laws.MakeOwn
import Derived.Laws.OwnMore
import Derived.Deep.RegionLaw
import Derived.Deep.QuietTactic
import Derived.BigQuiet
import Derived.Deep.CutRange
import Derived.Deep.RegionWith
import Derived.Deep.RegionHeld3
import Derived.Deep.CutBlock
namespace Go.Proofs.YtciafjmljmeimaaDoor
open Go Go.RowKit
set_option maxRecDepth 100000
set_option linter.unusedVariables false
/-- numbers as cells -/
def num (zs : List Int) : List Value := zs.map (Value.int .i64)
theorem alloc_at (w : World) (o : Obj) : (w.alloc o).heap[w.heap.size]? = some o := by show (w.heap.push o)[w.heap.size]? = some o; exact Array.getElem?_push_size
theorem alloc_size (w : World) (o : Obj) : (w.alloc o).heap.size = w.heap.size + 1 := by show (w.heap.push o).size = _; exact Array.size_push _
theorem alloc_below (w : World) (o : Obj) : Below w.heap.size w (w.alloc o) := (Below.refl _ _).alloc (Nat.le_refl _) _
theorem cell_of {w : World} {b i : Nat} {cs : Array Value} {t : TypeId} {k : Nat × Nat} (h : w.heap[b]? = some (.cells cs t k)) : w.cell? ⟨b, i, none⟩ = cs[i]? := by
  simp [World.cell?, h]
theorem at_lt {w : World} {g : Nat} {o : Obj} (h : w.heap[g]? = some o) : g < w.heap.size := by
  rcases Nat.lt_or_ge g w.heap.size with k | k
  · exact k
  · rw [Array.getElem?_eq_none k] at h; cases h
theorem cell_lt {w : World} {n i : Nat} {v : Value} (h : w.cell? ⟨n, i, none⟩ = some v) : n < w.heap.size := by
  by_cases hn : n < w.heap.size
  · exact hn
  · rw [World.cell?] at h
    simp [Array.getElem?_eq_none (Nat.le_of_not_lt hn)] at h
theorem below_drewN (w : World) : ∀ n, Below w.heap.size w (w.drewN n)
  | 0 => Below.refl _ _
  | n + 1 => by
    have := below_drewN w n
    exact ⟨this.os, this.tape, this.output, this.size, this.block⟩
/-- a slice of numbers that is read -/
def Src (w : World) (sp : Option Addr) (zs : List Int) : Prop :=
  0 < zs.length → ∃ b off, sp = some ⟨b, off, none⟩ ∧ ∀ i, i < zs.length → w.cell? ⟨b, off + i, none⟩ = some (.int .i64 (zs.getD i 0))
theorem Src.below {w w' : World} {sp : Option Addr} {zs : List Int} (h : Src w sp zs) (hb : Below w.heap.size w w') : Src w' sp zs := by
  intro hz
  obtain ⟨b, off, e, hc⟩ := h hz
  exact ⟨b, off, e, fun i hi => by rw [hb.cell (p := ⟨b, off + i, none⟩) (cell_lt (hc i hi))]; exact hc i hi⟩
theorem Src.own {w : World} {B : Nat} {v : Value} {zs : List Int} (h : w.ownsRow B 3 1 v zs.length (zs.map (Value.int .i64))) : ∃ sp cap, v = .slice sp zs.length cap ∧ Src w sp zs := by
  rcases h.2 with ⟨rfl, h0⟩ | ⟨g, cap, cur, rfl, _⟩
  · exact ⟨none, 0, by rw [h0], fun hz => by omega⟩
  · exact ⟨_, cap, rfl, fun _ => ⟨g, 0, rfl, fun i hi => by rw [Nat.zero_add, h.cellAt i (by omega)]; simp [hi]⟩⟩
/-- blocks that are as they were, but for those of a list -/
structure Buts (l : List Nat) (w w' : World) : Prop where
  os : w'.os = w.os
  tape : w'.tape = w.tape
  output : w'.output = w.output
  size : w.heap.size ≤ w'.heap.size
  block : ∀ k, k < w.heap.size → k ∉ l → w'.heap[k]? = w.heap[k]?
theorem Buts.refl (l : List Nat) (w : World) : Buts l w w := ⟨rfl, rfl, rfl, Nat.le_refl _, fun _ _ _ => rfl⟩
theorem Buts.trans {l : List Nat} {a b c : World} (h : Buts l a b) (k : Buts l b c) : Buts l a c :=
  ⟨k.os.trans h.os, k.tape.trans h.tape, k.output.trans h.output, Nat.le_trans h.size k.size, fun i hi hg => (k.block i (Nat.lt_of_lt_of_le hi h.size) hg).trans (h.block i hi hg)⟩
theorem Buts.mono {l m : List Nat} {a b : World} (h : Buts l a b) (hm : ∀ x ∈ l, x ∈ m) : Buts m a b :=
  ⟨h.os, h.tape, h.output, h.size, fun i hi hg => h.block i hi fun e => hg (hm i e)⟩
theorem Buts.of {l : List Nat} {w w' : World} (h : Below w.heap.size w w') : Buts l w w' := ⟨h.os, h.tape, h.output, h.size, fun k hk _ => h.block k hk⟩
theorem Buts.below {l : List Nat} {B : Nat} {w w' : World} (h : Buts l w w') (hg : ∀ x ∈ l, B ≤ x) (hB : B ≤ w.heap.size) : Below B w w' :=
  ⟨h.os, h.tape, h.output, h.size, fun k hk => h.block k (by omega) (fun e => by have := hg k e; omega)⟩
theorem Buts.drew {l : List Nat} {a b : World} (h : Buts l a b) : Buts l a b.drew := ⟨h.os, h.tape, h.output, h.size, h.block⟩
theorem Buts.cell (w : World) (g k : Nat) (v : Value) : Buts [g] w (w.setCell ⟨g, k, none⟩ v) :=
  ⟨rfl, rfl, rfl, by simp [World.setCell], fun j hj hg => Below.heap_setCell _ _ _ _ (by simpa using hg)⟩
theorem Buts.grown {w w' : World} {row : Option Nat} (h : w.grownBy w' row) : Buts row.toList w w' :=
  ⟨h.os, h.tape, h.output, h.size, fun k hk hg => h.block k hk (fun e => hg (by rw [← e]; simp))⟩
/-- a row that a slice owns stays, where its block does -/
theorem owns_of {w w' : World} {B : Nat} {e : TypeId} {s : Nat} {v : Value} {n : Nat} {xs : List Value} (h : w.ownsRow B e s v n xs) (hb : ∀ g, v.ownBlock = some g → w'.heap[g]? = w.heap[g]?) : w'.ownsRow B e s v n xs := by
  obtain ⟨h1, h2⟩ := h
  refine ⟨h1, ?_⟩
  rcases h2 with h2 | ⟨g, cap, cur, rfl, hg, hh, r⟩
  · exact Or.inl h2
  · exact Or.inr ⟨g, cap, cur, rfl, hg, by rw [hb g rfl]; exact hh, r⟩
theorem owns_buts {w w' : World} {B : Nat} {e : TypeId} {s : Nat} {v : Value} {n : Nat} {xs : List Value} {l : List Nat} (h : w.ownsRow B e s v n xs) (hb : Buts l w w') (hl : ∀ g, v.ownBlock = some g → g ∉ l) : w'.ownsRow B e s v n xs :=
  owns_of h fun g hg => hb.block g (h.lt g hg).2 (hl g hg)
theorem owns_spot {w : World} {B : Nat} {e : TypeId} {s : Nat} {v : Value} {n : Nat} {xs : List Value} (h : w.ownsRow B e s v n xs) (hn : 0 < n) : ∃ g cap, v = .slice (some ⟨g, 0, none⟩) n cap ∧ n ≤ cap ∧ cap ≤ maxLen := by
  rcases h.2 with ⟨_, h0⟩ | ⟨g, cap, cur, rfl, _, _, hc, hm, _⟩
  · omega
  · exact ⟨g, cap, rfl, hc, hm⟩
/-- append to a row of one's own, as one step of a region that draws its order -/
theorem step_append_own {P : Program} {ops : Array Oper} {o : Oper} {a : Act} {w : World} {K : Act → World → Prop} {Q : Exit → Act → World → Prop} {X : Prop} (hgd : o.guard = none) (s x : Operand) (t : TypeId)
    (ho : o.op = .call { callee := .builtin .append, args := #[s, x], argTypes := #[t, t] })
    (base : Nat) (e : TypeId) (i : TypeInfo) (z : Value) (size bytes : Nat) (ht : P.underlying t = some (.slice e)) (hi : P.info? e = some i) (hz : i.zero = some z)
    (hsize : i.size = size) (hby : i.bytes = bytes) (hzs : z.cells.size = size) (hsz : 0 < size)
    (v : Value) (n : Nat) (xs : List Value) (hs : a.eval s = v) (hown : w.ownsRow base e size v n xs)
    (ad : Addr) (m c : Nat) (news : List Value) (hx : a.eval x = .slice (some ad) m c) (hl : news.length = m * size) (hnews : ∀ j u, news[j]? = some u → w.cell? (ad.add j) = some u) (h1 : ∀ u ∈ news, u.oneCell' = true)
    (h63 : n + m ≤ maxLen) (hbytes : (n + m) * bytes ≤ 140737488355328) (hbase : base ≤ w.heap.size)
    (h : ∀ v' w', w'.ownsRow base e size v' (n + m) (xs ++ news) → w.grownBy w' v.ownBlock → (v' = .slice none 0 0 ↔ v = .slice none 0 0 ∧ m = 0) → K (a.put o.dst v') w') :
    if Region.wanted o (yielded ops a.tmps) = true then Oper.wp P o a w K Q else X := by
  have hw : Region.wanted o (yielded ops a.tmps) = true := by simp [Region.wanted, hgd]
  rw [if_pos hw]
  obtain ⟨v', w', hr, h2, h3, h4⟩ := run_append_own (P := P) w base t o.type e i z size bytes ht hi hz hsize hby hzs hsz v n xs hown ad m c news hl hnews h1 h63 hbytes hbase
  unfold Oper.wp execOp
  simp only [ho, resolve, invoke, builtin, Sem.run_bind, Sem.run_pure, Result.andThen_ok, List.map_toArray, List.map_cons, List.map_nil, hs, hx, hr]
  exact h v' w' h2 h3 h4
theorem own_form {w : World} {B : Nat} {v : Value} {n : Nat} {xs : List Value} {t : TypeId} {s : Nat} (h : w.ownsRow B t s v n xs) : ∃ sp cap, v = .slice sp n cap ∧ (0 < n → ∃ g, sp = some ⟨g, 0, none⟩) ∧ (sp = none ∨ ∃ g, sp = some ⟨g, 0, none⟩ ∧ w.heap[g]?.isSome ∧ ∃ cur, w.heap[g]? = some (.cells cur t (0, 0))) ∧ n ≤ maxLen := by
  rcases h.2 with ⟨rfl, rfl⟩ | ⟨g, cap, cur, rfl, _, hh, hc, hm, _⟩
  · exact ⟨none, 0, rfl, by omega, Or.inl rfl, by simp⟩
  · exact ⟨some ⟨g, 0, none⟩, cap, rfl, fun _ => ⟨g, rfl⟩, Or.inr ⟨g, rfl, by simp [hh], cur, hh⟩, by omega⟩
theorem block_ne {w : World} {B g : Nat} {v : Value} {n : Nat} {xs : List Value} {t t' : TypeId} {s : Nat} {cs : Array Value} {f : Nat × Nat} (h : w.ownsRow B t s v n xs) (hv : v.ownBlock = some g) {K : Nat} (hK : w.heap[K]? = some (.cells cs t' f)) (ht : t ≠ t') : g ≠ K := by
  rintro rfl
  rcases h.2 with ⟨rfl, _⟩ | ⟨g', c, cur, rfl, _, hh, _⟩
  · simp [Value.ownBlock] at hv
  · have : g' = g := by simpa [Value.ownBlock] using hv
    subst this
    rw [hK] at hh
    simp only [Option.some.injEq, Obj.cells.injEq] at hh
    exact ht hh.2.1.symm
theorem own_ne {w : World} {B B' g H : Nat} {v v' : Value} {n n' : Nat} {xs xs' : List Value} {t t' : TypeId} {s s' : Nat} (h : w.ownsRow B t s v n xs) (hv : v.ownBlock = some g) (h' : w.ownsRow B' t' s' v' n' xs') (hv' : v'.ownBlock = some H) (ht : t ≠ t') : g ≠ H := by
  rcases h'.2 with ⟨rfl, _⟩ | ⟨g', c, cur, rfl, _, hh, _⟩
  · simp [Value.ownBlock] at hv'
  · have : g' = H := by simpa [Value.ownBlock] using hv'
    subst this
    exact block_ne h hv hh ht
theorem cell1 (w : World) (x : Value) (t : TypeId) : ∀ j u, ([x] : List Value)[j]? = some u → (w.alloc (.cells #[x] t)).cell? ((⟨w.heap.size, 0, none⟩ : Addr).add j) = some u := by
  intro j u hj
  have hadd : (⟨w.heap.size, 0, none⟩ : Addr).add j = ⟨w.heap.size, 0 + j, none⟩ := by unfold Addr.add; split <;> simp_all
  rw [hadd, Nat.zero_add, cell_of (alloc_at w _)]
  rcases j with _ | j
  · exact hj
  · simp at hj
theorem owns_below {w w' : World} {B m : Nat} {v : Value} {xs : List Value} (h : w.ownsRow B 3 1 v m xs) (hb : Below w.heap.size w w') : w'.ownsRow B 3 1 v m xs :=
  owns_of h fun g hg => hb.block g (h.lt g hg).2
theorem owns_base {w : World} {B B' m s : Nat} {t : TypeId} {v : Value} {xs : List Value} (h : w.ownsRow B' t s v m xs) (hb : B ≤ B') : w.ownsRow B t s v m xs := by
  obtain ⟨h1, h2⟩ := h
  refine ⟨h1, ?_⟩
  rcases h2 with h2 | ⟨g, cap, cur, rfl, hg, r⟩
  · exact Or.inl h2
  · exact Or.inr ⟨g, cap, cur, rfl, by omega, r⟩
theorem num_len (zs : List Int) : (num zs).length = zs.length := by simp [num]
theorem num_at (zs : List Int) (i : Nat) (h : i < zs.length) : (num zs)[i]? = some (.int .i64 (zs.getD i 0)) := by simp [num, h]
/-- a row of numbers -/
def Row (w : World) (g : Nat) (zs : List Int) : Prop := w.heap[g]? = some (.cells (num zs).toArray 3 (0, 0))
theorem Row.lt {w : World} {g : Nat} {zs : List Int} (h : Row w g zs) : g < w.heap.size := at_lt h
theorem Row.cell {w : World} {g : Nat} {zs : List Int} (h : Row w g zs) (i : Nat) (hi : i < zs.length) : w.cell? ⟨g, i, none⟩ = some (.int .i64 (zs.getD i 0)) := by
  rw [cell_of h]
  simpa using num_at zs i hi
theorem Row.free {w : World} {g : Nat} {zs : List Int} (h : Row w g zs) (i : Nat) : w.frozen? ⟨g, i, none⟩ = false := by unfold Row at h; simp [World.frozen?, h]
theorem Row.set {w : World} {g : Nat} {zs : List Int} (h : Row w g zs) (k : Nat) (v : Int) : Row (w.setCell ⟨g, k, none⟩ (.int .i64 v)) g (zs.set k v) := by
  have hl := h.lt
  have hv : w.heap[g] = .cells (num zs).toArray 3 (0, 0) := (Array.getElem?_eq_some_iff.1 h).2
  unfold Row World.setCell
  rw [Array.getElem?_eq_getElem (by simpa using hl), Array.getElem_modify]
  simp [hv, num]
theorem Row.buts {w w' : World} {g : Nat} {xs : List Int} {l : List Nat} (h : Row w g xs) (hb : Buts l w w') (hg : g ∉ l) : Row w' g xs := (hb.block g h.lt hg).trans h
theorem Row.below {w w' : World} {g : Nat} {xs : List Int} (h : Row w g xs) (hb : Below w.heap.size w w') : Row w' g xs := (hb.block g h.lt).trans h
theorem info_parts' {P : Program} {t : TypeId} {v : Value} {s b : Nat} (h : (P.info? t).map (fun i => (i.zero, i.size, i.bytes)) = some (some v, s, b)) : ∃ i, P.info? t = some i ∧ i.zero = some v ∧ i.size = s ∧ i.bytes = b := by
  obtain ⟨i, hi, he⟩ := Option.map_eq_some_iff.1 h
  exact ⟨i, hi, by simpa using congrArg Prod.fst he, by simpa using congrArg (fun x => x.2.1) he, by simpa using congrArg (fun x => x.2.2) he⟩
theorem infoW : (Tryd.prog.info? 3).map (fun i => (i.zero, i.size, i.bytes)) = some (some (.int .i64 0), 1, 8) := by kernel_rfl
theorem infoK : (Tryd.prog.info? 137).map (fun i => (i.zero, i.size, i.bytes)) = some (some (.agg #[.int .i64 0, .int .i64 0]), 2, 16) := by kernel_rfl
/-- links as cells -/
def lks : List (Int × Int) → List Value
  | [] => []
  | x :: r => .int .i64 x.1 :: .int .i64 x.2 :: lks r
theorem lks_len : ∀ ds : List (Int × Int), (lks ds).length = ds.length * 2
  | [] => rfl
  | x :: r => by simp [lks, lks_len r]; omega
theorem lks_app : ∀ ds es : List (Int × Int), lks (ds ++ es) = lks ds ++ lks es
  | [], _ => rfl
  | x :: r, es => by simp [lks, lks_app r]
theorem lks_take : ∀ (ds : List (Int × Int)) (k : Nat), lks (ds.take k) = (lks ds).take (k * 2)
  | [], k => by simp [lks]
  | x :: r, 0 => by simp [lks]
  | x :: r, k + 1 => by
    rw [show (k + 1) * 2 = k * 2 + 1 + 1 by omega]
    simp [lks, lks_take r]
theorem lks_drop : ∀ (ds : List (Int × Int)) (k : Nat), lks (ds.drop k) = (lks ds).drop (k * 2)
  | [], k => by simp [lks]
  | x :: r, 0 => by simp [lks]
  | x :: r, k + 1 => by
    rw [show (k + 1) * 2 = k * 2 + 1 + 1 by omega]
    simp [lks, lks_drop r]
theorem lks_at : ∀ (ds : List (Int × Int)) (i : Nat), i < ds.length → (lks ds)[i * 2]? = some (.int .i64 (ds.getD i (0, 0)).1) ∧ (lks ds)[i * 2 + 1]? = some (.int .i64 (ds.getD i (0, 0)).2)
  | [], _, h => by simp at h
  | x :: r, 0, _ => by simp [lks]
  | x :: r, i + 1, h => by
    rw [show (i + 1) * 2 = i * 2 + 1 + 1 by omega]
    have := lks_at r i (by simpa using h)
    simpa [lks] using this
theorem lks_one (ds : List (Int × Int)) : ∀ u ∈ lks ds, u.oneCell' = true := by
  induction ds with
  | nil => simp [lks]
  | cons x r ih =>
    intro u hu
    simp only [lks, List.mem_cons] at hu
    rcases hu with rfl | rfl | hu
    · rfl
    · rfl
    · exact ih u hu
theorem lks_set : ∀ (ds : List (Int × Int)) (k : Nat) (z : Int), k < ds.length → (lks ds).set (k * 2 + 1) (.int .i64 z) = lks (ds.set k ((ds.getD k (0, 0)).1, z))
  | [], _, _, h => by simp at h
  | x :: r, 0, z, _ => by simp [lks]
  | x :: r, k + 1, z, h => by
    rw [show (k + 1) * 2 = k * 2 + 1 + 1 by omega]
    have := lks_set r k z (by simpa using h)
    simp only [lks, List.set_cons_succ, List.getD_cons_succ]
    rw [this]
/-- so many more of the one at a place -/
def shAt (k : Nat) (d : Int) (ds : List (Int × Int)) : List (Int × Int) := ds.take k ++ sh d (ds.drop k)
theorem shAt_no {k : Nat} {d : Int} {ds : List (Int × Int)} (h : ds.length ≤ k) : shAt k d ds = ds := by
  rw [shAt, List.drop_eq_nil_of_le h, List.take_of_length_le h]; simp [sh]
theorem shAt_set {k : Nat} {d : Int} {ds : List (Int × Int)} (h : k < ds.length) : shAt k d ds = ds.set k ((ds.getD k (0, 0)).1, (ds.getD k (0, 0)).2 + d) := by
  rw [shAt, List.drop_eq_getElem_cons h, List.set_eq_take_append_cons_drop, if_pos h, List.getD_eq_getElem?_getD, List.getElem?_eq_getElem h]
  rfl
theorem sh_len (d : Int) (ds : List (Int × Int)) : (sh d ds).length = ds.length := by cases ds <;> simp [sh]
theorem shAt_len (k : Nat) (d : Int) (ds : List (Int × Int)) : (shAt k d ds).length = ds.length := by rw [shAt, List.length_append, sh_len]; simp; omega
/-- a slice of links, its owner's alone -/
def Own (B : Nat) (w : World) (v : Value) (ds : List (Int × Int)) : Prop := w.ownsRow B 137 2 v ds.length (lks ds)
theorem Own.buts {B : Nat} {w w' : World} {v : Value} {ds : List (Int × Int)} {l : List Nat} (h : Own B w v ds) (hb : Buts l w w') (hl : ∀ g, v.ownBlock = some g → g ∉ l) : Own B w' v ds := owns_buts h hb hl
theorem Own.below {B : Nat} {w w' : World} {v : Value} {ds : List (Int × Int)} (h : Own B w v ds) (hb : Below w.heap.size w w') : Own B w' v ds := h.buts (l := []) (Buts.of hb) (fun _ _ => by simp)
theorem Own.lt' {B : Nat} {w : World} {v : Value} {ds : List (Int × Int)} (h : Own B w v ds) {g : Nat} (hg : v.ownBlock = some g) : B ≤ g ∧ g < w.heap.size := World.ownsRow.lt h g hg
theorem Own.kind {B : Nat} {w : World} {v : Value} {ds : List (Int × Int)} (h : Own B w v ds) {g : Nat} (hg : v.ownBlock = some g) : ∃ cur, w.heap[g]? = some (.cells cur 137 (0, 0)) := by
  rcases h.2 with ⟨rfl, _⟩ | ⟨g', cap, cur, rfl, _, hh, _⟩
  · simp [Value.ownBlock] at hg
  · obtain rfl : g' = g := by simpa [Value.ownBlock] using hg
    exact ⟨cur, hh⟩
theorem Own.form {B : Nat} {w : World} {v : Value} {ds : List (Int × Int)} (h : Own B w v ds) : ∃ sp cap, v = .slice sp ds.length cap ∧ ds.length ≤ cap ∧ cap ≤ maxLen ∧ (sp = none → ds.length = 0 ∧ cap = 0) := by
  rcases h.2 with ⟨rfl, h0⟩ | ⟨g, cap, cur, rfl, _, _, hc, hm, _⟩
  · exact ⟨none, 0, by rw [h0], by omega, by simp [maxLen], fun _ => ⟨h0, rfl⟩⟩
  · exact ⟨_, cap, rfl, hc, hm, fun h => by cases h⟩
theorem Own.spot {B : Nat} {w : World} {v : Value} {ds : List (Int × Int)} (h : Own B w v ds) (hn : 0 < ds.length) : ∃ g cap, v = .slice (some ⟨g, 0, none⟩) ds.length cap ∧ ds.length ≤ cap ∧ cap ≤ maxLen := owns_spot h hn
theorem Own.cells {B : Nat} {w : World} {g n cap : Nat} {ds : List (Int × Int)} (h : Own B w (.slice (some ⟨g, 0, none⟩) n cap) ds) (hn : n = ds.length) (i : Nat) (hi : i < ds.length) :
    w.cell? ⟨g, i * 2, none⟩ = some (.int .i64 (ds.getD i (0, 0)).1) ∧ w.cell? ⟨g, i * 2 + 1, none⟩ = some (.int .i64 (ds.getD i (0, 0)).2) := by
  subst hn
  have h' : w.ownsRow B 137 2 (.slice (some ⟨g, 0, none⟩) ds.length cap) ds.length (lks ds) := h
  rw [h'.cellAt (i * 2) (by omega), h'.cellAt (i * 2 + 1) (by omega)]
  exact lks_at ds i hi
theorem Own.free {B : Nat} {w : World} {g n cap : Nat} {ds : List (Int × Int)} (h : Own B w (.slice (some ⟨g, 0, none⟩) n cap) ds) (i : Nat) : w.frozen? ⟨g, i, none⟩ = false := by
  obtain ⟨cur, hh⟩ := h.kind (g := g) rfl
  simp [World.frozen?, hh]
theorem Own.set {B : Nat} {w : World} {g cap : Nat} {ds : List (Int × Int)} (h : Own B w (.slice (some ⟨g, 0, none⟩) ds.length cap) ds) (k : Nat) (hk : k < ds.length) (z : Int) :
    Own B (w.setCell ⟨g, k * 2 + 1, none⟩ (.int .i64 z)) (.slice (some ⟨g, 0, none⟩) ds.length cap) (ds.set k ((ds.getD k (0, 0)).1, z)) := by
  have h' : w.ownsRow B 137 2 (.slice (some ⟨g, 0, none⟩) ds.length cap) ds.length (lks ds) := h
  have := (h'.stored (k * 2 + 1) (.int .i64 z)).1
  rw [lks_set ds k z hk] at this
  unfold Own
  rw [List.length_set]
  exact this
/-- a chain as it lies in memory, in a list that is made, at block p -/
structure Ch (B : Nat) (w : World) (p : Nat) (v : Value) (ds : List (Int × Int)) : Prop where
  head : w.heap[p]? = some (.cells #[.bool true, v] 70 (0, 0))
  own : Own B w v ds
  len : ds.length ≤ 1000
  low : B ≤ p
theorem Ch.buts {B : Nat} {w w' : World} {p : Nat} {v : Value} {ds : List (Int × Int)} {l : List Nat} (h : Ch B w p v ds) (hb : Buts l w w') (hp : p ∉ l) (hl : ∀ g, v.ownBlock = some g → g ∉ l) : Ch B w' p v ds :=
  ⟨(hb.block p (at_lt h.head) hp).trans h.head, h.own.buts hb hl, h.len, h.low⟩
theorem Ch.below {B : Nat} {w w' : World} {p : Nat} {v : Value} {ds : List (Int × Int)} (h : Ch B w p v ds) (hb : Below w.heap.size w w') : Ch B w' p v ds :=
  h.buts (l := []) (Buts.of hb) (by simp) (fun _ _ => by simp)
theorem Ch.ne {B : Nat} {w : World} {p : Nat} {v : Value} {ds : List (Int × Int)} (h : Ch B w p v ds) {g : Nat} (hg : v.ownBlock = some g) : p ≠ g := by
  rintro rfl
  obtain ⟨cur, hc⟩ := h.own.kind hg
  rw [h.head] at hc
  simp at hc
theorem Ch.made {B : Nat} {w : World} {p : Nat} {v : Value} {ds : List (Int × Int)} (h : Ch B w p v ds) : w.cell? ⟨p, 0, none⟩ = some (.bool true) := by rw [cell_of h.head]; rfl
theorem Ch.lnk {B : Nat} {w : World} {p : Nat} {v : Value} {ds : List (Int × Int)} (h : Ch B w p v ds) : w.cell? ⟨p, 1, none⟩ = some v := by rw [cell_of h.head]; rfl
theorem Ch.fp {B : Nat} {w : World} {p : Nat} {v : Value} {ds : List (Int × Int)} (h : Ch B w p v ds) (i : Nat) : w.frozen? ⟨p, i, none⟩ = false := by simp [World.frozen?, h.head]
/-- what a call leaves of a chain -/
def Nx (B : Nat) (w w' : World) (p : Nat) (v : Value) (es : List (Int × Int)) : Prop := ∃ v', Ch B w' p v' es ∧ Buts (p :: v.ownBlock.toList) w w' ∧ ∀ g, v'.ownBlock = some g → v.ownBlock = some g ∨ w.heap.size ≤ g
theorem set_block {w : World} {p : Nat} {cs : Array Value} {t : TypeId} (h : w.heap[p]? = some (.cells cs t (0, 0))) (k : Nat) (v : Value) : (w.setCell ⟨p, k, none⟩ v).heap[p]? = some (.cells (cs.setIfInBounds k v) t (0, 0)) := by
  have hl := at_lt h
  have hh := (Array.getElem?_eq_some_iff.1 h).2
  unfold World.setCell
  rw [Array.getElem?_eq_getElem (by simpa using hl), Array.getElem_modify]
  simp [hh]
theorem Ch.next {B : Nat} {w w' : World} {p : Nat} {v : Value} {ds : List (Int × Int)} (h : Ch B w p v ds) (hb : Below w.heap.size w w') : Nx B w w' p v ds :=
  ⟨v, h.below hb, Buts.of hb, fun g hg => Or.inl hg⟩
/-- another slice is laid into its head -/
theorem Ch.lay {B : Nat} {w w2 : World} {p : Nat} {v v' : Value} {ds es : List (Int × Int)} (h : Ch B w p v ds) (ho : Own B w2 v' es) (hb : Buts v.ownBlock.toList w w2) (hl : es.length ≤ 1000) (hne : ∀ g, v'.ownBlock = some g → v.ownBlock = some g ∨ w.heap.size ≤ g) :
    Ch B (w2.setCell ⟨p, 1, none⟩ v') p v' es ∧ Buts (p :: v.ownBlock.toList) w (w2.setCell ⟨p, 1, none⟩ v') := by
  have hp : w2.heap[p]? = some (.cells #[.bool true, v] 70 (0, 0)) := by
    rw [hb.block p (at_lt h.head) (fun hm => by
      have : v.ownBlock = some p := by simpa using hm
      exact h.ne this rfl)]
    exact h.head
  refine ⟨⟨by rw [set_block hp]; rfl, ho.buts (Buts.cell _ _ _ _) (fun g hg hm => ?_), hl, h.low⟩, (hb.mono (by simp; intro x hx; exact Or.inr hx)).trans ((Buts.cell _ _ _ _).mono (by simp))⟩
  obtain rfl : g = p := by simpa using hm
  obtain ⟨cur, hc⟩ := ho.kind hg
  rw [hp] at hc
  simp at hc
end Go.Proofs.YtciafjmljmeimaaDoor
