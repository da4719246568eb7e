/- What lies in memory: rows that are read, rows of one's own, queues; blocks that stay as they were. No law of the program itself. -/
import Derived.Test.YteicnekoogmmmaaGreatDoorQPure
import Derived.Laws.CopyOwn
import Derived.Laws.MakeOwn
import Derived.Laws.OwnMore
import Derived.Deep.RegionLaw
import Derived.Deep.QuietTactic
import Derived.BigQuiet
import Derived.Deep.CutRange
import Derived.Deep.RegionWith
import Derived.Deep.RegionHeld3
import Derived.Deep.CutBlock
namespace Go.Proofs.YteicnekoogmmmaaGreatDoor
open Go Go.RowKit
set_option maxRecDepth 100000
set_option linter.unusedVariables false
/-- words as cells -/
def wrd (zs : List Int) : List Value := zs.map (Value.int .u32)
theorem alloc_at (w : World) (o : Obj) : (w.alloc o).heap[w.heap.size]? = some o := by show (w.heap.push o)[w.heap.size]? = some o; exact Array.getElem?_push_size
theorem alloc_size (w : World) (o : Obj) : (w.alloc o).heap.size = w.heap.size + 1 := by show (w.heap.push o).size = _; exact Array.size_push _
theorem alloc_below (w : World) (o : Obj) : Below w.heap.size w (w.alloc o) := (Below.refl _ _).alloc (Nat.le_refl _) _
theorem cell_of {w : World} {b i : Nat} {cs : Array Value} {t : TypeId} {k : Nat × Nat} (h : w.heap[b]? = some (.cells cs t k)) : w.cell? ⟨b, i, none⟩ = cs[i]? := by
  simp [World.cell?, h]
theorem at_lt {w : World} {g : Nat} {o : Obj} (h : w.heap[g]? = some o) : g < w.heap.size := by
  rcases Nat.lt_or_ge g w.heap.size with k | k
  · exact k
  · rw [Array.getElem?_eq_none k] at h; cases h
theorem cell_lt {w : World} {n i : Nat} {v : Value} (h : w.cell? ⟨n, i, none⟩ = some v) : n < w.heap.size := by
  by_cases hn : n < w.heap.size
  · exact hn
  · rw [World.cell?] at h
    simp [Array.getElem?_eq_none (Nat.le_of_not_lt hn)] at h
theorem below_drewN (w : World) : ∀ n, Below w.heap.size w (w.drewN n)
  | 0 => Below.refl _ _
  | n + 1 => by
    have := below_drewN w n
    exact ⟨this.os, this.tape, this.output, this.size, this.block⟩
/-- a slice of numbers that is read -/
def Src (w : World) (sp : Option Addr) (zs : List Int) : Prop :=
  0 < zs.length → ∃ b off, sp = some ⟨b, off, none⟩ ∧ ∀ i, i < zs.length → w.cell? ⟨b, off + i, none⟩ = some (.int .u32 (zs.getD i 0))
theorem Src.below {w w' : World} {sp : Option Addr} {zs : List Int} (h : Src w sp zs) (hb : Below w.heap.size w w') : Src w' sp zs := by
  intro hz
  obtain ⟨b, off, e, hc⟩ := h hz
  exact ⟨b, off, e, fun i hi => by rw [hb.cell (p := ⟨b, off + i, none⟩) (cell_lt (hc i hi))]; exact hc i hi⟩
theorem Src.own {w : World} {B : Nat} {v : Value} {zs : List Int} (h : w.ownsRow B 23 1 v zs.length (zs.map (Value.int .u32))) : ∃ sp cap, v = .slice sp zs.length cap ∧ Src w sp zs := by
  rcases h.2 with ⟨rfl, h0⟩ | ⟨g, cap, cur, rfl, _⟩
  · exact ⟨none, 0, by rw [h0], fun hz => by omega⟩
  · exact ⟨_, cap, rfl, fun _ => ⟨g, 0, rfl, fun i hi => by rw [Nat.zero_add, h.cellAt i (by omega)]; simp [hi]⟩⟩
/-- blocks that are as they were, but for those of a list -/
structure Buts (l : List Nat) (w w' : World) : Prop where
  os : w'.os = w.os
  tape : w'.tape = w.tape
  output : w'.output = w.output
  size : w.heap.size ≤ w'.heap.size
  block : ∀ k, k < w.heap.size → k ∉ l → w'.heap[k]? = w.heap[k]?
theorem Buts.refl (l : List Nat) (w : World) : Buts l w w := ⟨rfl, rfl, rfl, Nat.le_refl _, fun _ _ _ => rfl⟩
theorem Buts.trans {l : List Nat} {a b c : World} (h : Buts l a b) (k : Buts l b c) : Buts l a c :=
  ⟨k.os.trans h.os, k.tape.trans h.tape, k.output.trans h.output, Nat.le_trans h.size k.size, fun i hi hg => (k.block i (Nat.lt_of_lt_of_le hi h.size) hg).trans (h.block i hi hg)⟩
theorem Buts.mono {l m : List Nat} {a b : World} (h : Buts l a b) (hm : ∀ x ∈ l, x ∈ m) : Buts m a b :=
  ⟨h.os, h.tape, h.output, h.size, fun i hi hg => h.block i hi fun e => hg (hm i e)⟩
theorem Buts.of {l : List Nat} {w w' : World} (h : Below w.heap.size w w') : Buts l w w' := ⟨h.os, h.tape, h.output, h.size, fun k hk _ => h.block k hk⟩
theorem Buts.below {l : List Nat} {B : Nat} {w w' : World} (h : Buts l w w') (hg : ∀ x ∈ l, B ≤ x) (hB : B ≤ w.heap.size) : Below B w w' :=
  ⟨h.os, h.tape, h.output, h.size, fun k hk => h.block k (by omega) (fun e => by have := hg k e; omega)⟩
theorem Buts.drew {l : List Nat} {a b : World} (h : Buts l a b) : Buts l a b.drew := ⟨h.os, h.tape, h.output, h.size, h.block⟩
theorem Buts.cell (w : World) (g k : Nat) (v : Value) : Buts [g] w (w.setCell ⟨g, k, none⟩ v) :=
  ⟨rfl, rfl, rfl, by simp [World.setCell], fun j hj hg => Below.heap_setCell _ _ _ _ (by simpa using hg)⟩
theorem Buts.grown {w w' : World} {row : Option Nat} (h : w.grownBy w' row) : Buts row.toList w w' :=
  ⟨h.os, h.tape, h.output, h.size, fun k hk hg => h.block k hk (fun e => hg (by rw [← e]; simp))⟩
/-- a row that a slice owns stays, where its block does -/
theorem owns_of {w w' : World} {B : Nat} {e : TypeId} {s : Nat} {v : Value} {n : Nat} {xs : List Value} (h : w.ownsRow B e s v n xs) (hb : ∀ g, v.ownBlock = some g → w'.heap[g]? = w.heap[g]?) : w'.ownsRow B e s v n xs := by
  obtain ⟨h1, h2⟩ := h
  refine ⟨h1, ?_⟩
  rcases h2 with h2 | ⟨g, cap, cur, rfl, hg, hh, r⟩
  · exact Or.inl h2
  · exact Or.inr ⟨g, cap, cur, rfl, hg, by rw [hb g rfl]; exact hh, r⟩
theorem owns_buts {w w' : World} {B : Nat} {e : TypeId} {s : Nat} {v : Value} {n : Nat} {xs : List Value} {l : List Nat} (h : w.ownsRow B e s v n xs) (hb : Buts l w w') (hl : ∀ g, v.ownBlock = some g → g ∉ l) : w'.ownsRow B e s v n xs :=
  owns_of h fun g hg => hb.block g (h.lt g hg).2 (hl g hg)
theorem owns_spot {w : World} {B : Nat} {e : TypeId} {s : Nat} {v : Value} {n : Nat} {xs : List Value} (h : w.ownsRow B e s v n xs) (hn : 0 < n) : ∃ g cap, v = .slice (some ⟨g, 0, none⟩) n cap ∧ n ≤ cap ∧ cap ≤ maxLen := by
  rcases h.2 with ⟨_, h0⟩ | ⟨g, cap, cur, rfl, _, _, hc, hm, _⟩
  · omega
  · exact ⟨g, cap, rfl, hc, hm⟩
/-- append to a row of one's own, as one step of a region that draws its order -/
theorem step_append_own {P : Program} {ops : Array Oper} {o : Oper} {a : Act} {w : World} {K : Act → World → Prop} {Q : Exit → Act → World → Prop} {X : Prop} (hgd : o.guard = none) (s x : Operand) (t : TypeId)
    (ho : o.op = .call { callee := .builtin .append, args := #[s, x], argTypes := #[t, t] })
    (base : Nat) (e : TypeId) (i : TypeInfo) (z : Value) (size bytes : Nat) (ht : P.underlying t = some (.slice e)) (hi : P.info? e = some i) (hz : i.zero = some z)
    (hsize : i.size = size) (hby : i.bytes = bytes) (hzs : z.cells.size = size) (hsz : 0 < size)
    (v : Value) (n : Nat) (xs : List Value) (hs : a.eval s = v) (hown : w.ownsRow base e size v n xs)
    (ad : Addr) (m c : Nat) (news : List Value) (hx : a.eval x = .slice (some ad) m c) (hl : news.length = m * size) (hnews : ∀ j u, news[j]? = some u → w.cell? (ad.add j) = some u) (h1 : ∀ u ∈ news, u.oneCell' = true)
    (h63 : n + m ≤ maxLen) (hbytes : (n + m) * bytes ≤ 140737488355328) (hbase : base ≤ w.heap.size)
    (h : ∀ v' w', w'.ownsRow base e size v' (n + m) (xs ++ news) → w.grownBy w' v.ownBlock → (v' = .slice none 0 0 ↔ v = .slice none 0 0 ∧ m = 0) → K (a.put o.dst v') w') :
    if Region.wanted o (yielded ops a.tmps) = true then Oper.wp P o a w K Q else X := by
  have hw : Region.wanted o (yielded ops a.tmps) = true := by simp [Region.wanted, hgd]
  rw [if_pos hw]
  obtain ⟨v', w', hr, h2, h3, h4⟩ := run_append_own (P := P) w base t o.type e i z size bytes ht hi hz hsize hby hzs hsz v n xs hown ad m c news hl hnews h1 h63 hbytes hbase
  unfold Oper.wp execOp
  simp only [ho, resolve, invoke, builtin, Sem.run_bind, Sem.run_pure, Result.andThen_ok, List.map_toArray, List.map_cons, List.map_nil, hs, hx, hr]
  exact h v' w' h2 h3 h4
theorem own_form {w : World} {B : Nat} {v : Value} {n : Nat} {xs : List Value} {t : TypeId} {s : Nat} (h : w.ownsRow B t s v n xs) : ∃ sp cap, v = .slice sp n cap ∧ (0 < n → ∃ g, sp = some ⟨g, 0, none⟩) ∧ (sp = none ∨ ∃ g, sp = some ⟨g, 0, none⟩ ∧ w.heap[g]?.isSome ∧ ∃ cur, w.heap[g]? = some (.cells cur t (0, 0))) ∧ n ≤ maxLen := by
  rcases h.2 with ⟨rfl, rfl⟩ | ⟨g, cap, cur, rfl, _, hh, hc, hm, _⟩
  · exact ⟨none, 0, rfl, by omega, Or.inl rfl, by simp⟩
  · exact ⟨some ⟨g, 0, none⟩, cap, rfl, fun _ => ⟨g, rfl⟩, Or.inr ⟨g, rfl, by simp [hh], cur, hh⟩, by omega⟩
theorem block_ne {w : World} {B g : Nat} {v : Value} {n : Nat} {xs : List Value} {t t' : TypeId} {s : Nat} {cs : Array Value} {f : Nat × Nat} (h : w.ownsRow B t s v n xs) (hv : v.ownBlock = some g) {K : Nat} (hK : w.heap[K]? = some (.cells cs t' f)) (ht : t ≠ t') : g ≠ K := by
  rintro rfl
  rcases h.2 with ⟨rfl, _⟩ | ⟨g', c, cur, rfl, _, hh, _⟩
  · simp [Value.ownBlock] at hv
  · have : g' = g := by simpa [Value.ownBlock] using hv
    subst this
    rw [hK] at hh
    simp only [Option.some.injEq, Obj.cells.injEq] at hh
    exact ht hh.2.1.symm
theorem own_ne {w : World} {B B' g H : Nat} {v v' : Value} {n n' : Nat} {xs xs' : List Value} {t t' : TypeId} {s s' : Nat} (h : w.ownsRow B t s v n xs) (hv : v.ownBlock = some g) (h' : w.ownsRow B' t' s' v' n' xs') (hv' : v'.ownBlock = some H) (ht : t ≠ t') : g ≠ H := by
  rcases h'.2 with ⟨rfl, _⟩ | ⟨g', c, cur, rfl, _, hh, _⟩
  · simp [Value.ownBlock] at hv'
  · have : g' = H := by simpa [Value.ownBlock] using hv'
    subst this
    exact block_ne h hv hh ht
theorem cell1 (w : World) (x : Value) (t : TypeId) : ∀ j u, ([x] : List Value)[j]? = some u → (w.alloc (.cells #[x] t)).cell? ((⟨w.heap.size, 0, none⟩ : Addr).add j) = some u := by
  intro j u hj
  have hadd : (⟨w.heap.size, 0, none⟩ : Addr).add j = ⟨w.heap.size, 0 + j, none⟩ := by unfold Addr.add; split <;> simp_all
  rw [hadd, Nat.zero_add, cell_of (alloc_at w _)]
  rcases j with _ | j
  · exact hj
  · simp at hj
theorem owns_below {w w' : World} {B m : Nat} {v : Value} {xs : List Value} (h : w.ownsRow B 23 1 v m xs) (hb : Below w.heap.size w w') : w'.ownsRow B 23 1 v m xs :=
  owns_of h fun g hg => hb.block g (h.lt g hg).2
theorem owns_base {w : World} {B B' m s : Nat} {t : TypeId} {v : Value} {xs : List Value} (h : w.ownsRow B' t s v m xs) (hb : B ≤ B') : w.ownsRow B t s v m xs := by
  obtain ⟨h1, h2⟩ := h
  refine ⟨h1, ?_⟩
  rcases h2 with h2 | ⟨g, cap, cur, rfl, hg, r⟩
  · exact Or.inl h2
  · exact Or.inr ⟨g, cap, cur, rfl, by omega, r⟩
theorem wrd_len (zs : List Int) : (wrd zs).length = zs.length := by simp [wrd]
theorem wrd_at (zs : List Int) (i : Nat) (h : i < zs.length) : (wrd zs)[i]? = some (.int .u32 (zs.getD i 0)) := by simp [wrd, h]
/-- a row of numbers -/
def Row (w : World) (g : Nat) (zs : List Int) : Prop := w.heap[g]? = some (.cells (wrd zs).toArray 23 (0, 0))
theorem Row.lt {w : World} {g : Nat} {zs : List Int} (h : Row w g zs) : g < w.heap.size := at_lt h
theorem Row.cell {w : World} {g : Nat} {zs : List Int} (h : Row w g zs) (i : Nat) (hi : i < zs.length) : w.cell? ⟨g, i, none⟩ = some (.int .u32 (zs.getD i 0)) := by
  rw [cell_of h]
  simpa using wrd_at zs i hi
theorem Row.free {w : World} {g : Nat} {zs : List Int} (h : Row w g zs) (i : Nat) : w.frozen? ⟨g, i, none⟩ = false := by unfold Row at h; simp [World.frozen?, h]
theorem Row.set {w : World} {g : Nat} {zs : List Int} (h : Row w g zs) (k : Nat) (v : Int) : Row (w.setCell ⟨g, k, none⟩ (.int .u32 v)) g (zs.set k v) := by
  have hl := h.lt
  have hv : w.heap[g] = .cells (wrd zs).toArray 23 (0, 0) := (Array.getElem?_eq_some_iff.1 h).2
  unfold Row World.setCell
  rw [Array.getElem?_eq_getElem (by simpa using hl), Array.getElem_modify]
  simp [hv, wrd]
theorem set_block {w : World} {p : Nat} {cs : Array Value} {t : TypeId} (h : w.heap[p]? = some (.cells cs t (0, 0))) (k : Nat) (v : Value) : (w.setCell ⟨p, k, none⟩ v).heap[p]? = some (.cells (cs.setIfInBounds k v) t (0, 0)) := by
  have hl := at_lt h
  have hh := (Array.getElem?_eq_some_iff.1 h).2
  unfold World.setCell
  rw [Array.getElem?_eq_getElem (by simpa using hl), Array.getElem_modify]
  simp [hh]
/-- a queue's own block: its slots, the first one's slot, how many there are, and may be -/
def qc (ys : List Int) (f m n : Int) : List Value := wrd ys ++ [.int .i64 f, .int .i64 m, .int .i64 n]
theorem qc_at {ys : List Int} (hy : ys.length = 64) (f m n : Int) {i : Nat} (hi : i < 64) : (qc ys f m n)[i]? = some (.int .u32 (ys.getD i 0)) := by
  unfold qc
  rw [List.getElem?_append_left (by rw [wrd_len]; omega)]
  exact wrd_at ys i (by omega)
theorem qc_far {ys : List Int} (hy : ys.length = 64) (f m n : Int) (j : Nat) : (qc ys f m n)[64 + j]? = ([.int .i64 f, .int .i64 m, .int .i64 n] : List Value)[j]? := by
  unfold qc
  rw [List.getElem?_append_right (by rw [wrd_len]; omega), wrd_len, hy, Nat.add_sub_cancel_left]
theorem qc_set {ys : List Int} (hy : ys.length = 64) (f m n : Int) {i : Nat} (hi : i < 64) (z : Int) : (qc ys f m n).set i (.int .u32 z) = qc (ys.set i z) f m n := by
  unfold qc
  rw [List.set_append_left _ _ (by rw [wrd_len]; omega)]
  simp [wrd, List.map_set]
theorem qc_put {ys : List Int} (hy : ys.length = 64) (f m n : Int) (j : Nat) (v : Value) : (qc ys f m n).set (64 + j) v = wrd ys ++ ([.int .i64 f, .int .i64 m, .int .i64 n] : List Value).set j v := by
  unfold qc
  rw [List.set_append_right _ _ (by rw [wrd_len]; omega), wrd_len, hy, Nat.add_sub_cancel_left]
/-- a queue as it lies at block p -/
structure Raw (w : World) (p n f m : Nat) (ys : List Int) : Prop where
  head : w.heap[p]? = some (.cells (qc ys f m n).toArray 157 (0, 0))
  len : ys.length = 64
theorem Raw.slot {w : World} {p n f m : Nat} {ys : List Int} (h : Raw w p n f m ys) {i : Nat} (hi : i < 64) : w.cell? ⟨p, i, none⟩ = some (.int .u32 (ys.getD i 0)) := by
  rw [cell_of h.head]; simpa using qc_at h.len f m n hi
theorem Raw.c1 {w : World} {p n f m : Nat} {ys : List Int} (h : Raw w p n f m ys) : w.cell? ⟨p, 64, none⟩ = some (.int .i64 f) := by
  rw [cell_of h.head]; simpa using qc_far h.len f m n 0
theorem Raw.c2 {w : World} {p n f m : Nat} {ys : List Int} (h : Raw w p n f m ys) : w.cell? ⟨p, 65, none⟩ = some (.int .i64 m) := by
  rw [cell_of h.head]; simpa using qc_far h.len f m n 1
theorem Raw.c3 {w : World} {p n f m : Nat} {ys : List Int} (h : Raw w p n f m ys) : w.cell? ⟨p, 66, none⟩ = some (.int .i64 n) := by
  rw [cell_of h.head]; simpa using qc_far h.len f m n 2
theorem Raw.fp {w : World} {p n f m : Nat} {ys : List Int} (h : Raw w p n f m ys) (i : Nat) : w.frozen? ⟨p, i, none⟩ = false := by simp [World.frozen?, h.head]
theorem Raw.lt {w : World} {p n f m : Nat} {ys : List Int} (h : Raw w p n f m ys) : p < w.heap.size := at_lt h.head
theorem Raw.setSlot {w : World} {p n f m : Nat} {ys : List Int} (h : Raw w p n f m ys) {i : Nat} (hi : i < 64) (z : Int) : Raw (w.setCell ⟨p, i, none⟩ (.int .u32 z)) p n f m (ys.set i z) := by
  refine ⟨?_, by rw [List.length_set]; exact h.len⟩
  rw [set_block h.head, List.setIfInBounds_toArray, qc_set h.len f m n hi]
theorem Raw.setFirst {w : World} {p n f m : Nat} {ys : List Int} (h : Raw w p n f m ys) (f' : Nat) : Raw (w.setCell ⟨p, 64, none⟩ (.int .i64 f')) p n f' m ys := by
  refine ⟨?_, h.len⟩
  rw [set_block h.head, List.setIfInBounds_toArray, show 64 = 64 + 0 from rfl, qc_put h.len f m n 0]
  rfl
theorem Raw.setMany {w : World} {p n f m : Nat} {ys : List Int} (h : Raw w p n f m ys) (m' : Nat) : Raw (w.setCell ⟨p, 65, none⟩ (.int .i64 m')) p n f m' ys := by
  refine ⟨?_, h.len⟩
  rw [set_block h.head, List.setIfInBounds_toArray, show 65 = 64 + 1 from rfl, qc_put h.len f m n 1]
  rfl
theorem Raw.buts {w w' : World} {p n f m : Nat} {ys : List Int} {l : List Nat} (h : Raw w p n f m ys) (hb : Buts l w w') (hp : p ∉ l) : Raw w' p n f m ys :=
  ⟨(hb.block p h.lt hp).trans h.head, h.len⟩
theorem Raw.below {w w' : World} {p n f m : Nat} {ys : List Int} (h : Raw w p n f m ys) (hb : Below w.heap.size w w') : Raw w' p n f m ys :=
  h.buts (l := []) (Buts.of hb) (by simp)
theorem Raw.drew {w : World} {p n f m : Nat} {ys : List Int} (h : Raw w p n f m ys) (k : Nat) : Raw (w.drewN k) p n f m ys := h.below (below_drewN _ _)
theorem Raw.drew1 {w : World} {p n f m : Nat} {ys : List Int} (h : Raw w p n f m ys) : Raw w.drew p n f m ys := h.drew 1
theorem drew_below (w : World) : Below w.heap.size w w.drew := below_drewN w 1
/-- a queue of messages, for so many -/
structure Que (w : World) (p n : Nat) (xs : List Int) : Prop where
  raw : ∃ f ys, f < 64 ∧ Raw w p n f xs.length ys ∧ Holds 64 f ys xs
  lo : 1 ≤ n
  hi : n ≤ 64
  len : xs.length ≤ n
theorem Que.buts {w w' : World} {p n : Nat} {xs : List Int} {l : List Nat} (h : Que w p n xs) (hb : Buts l w w') (hp : p ∉ l) : Que w' p n xs := by
  obtain ⟨f, ys, hf, hr, hh⟩ := h.raw
  exact ⟨⟨f, ys, hf, hr.buts hb hp, hh⟩, h.lo, h.hi, h.len⟩
theorem Que.below {w w' : World} {p n : Nat} {xs : List Int} (h : Que w p n xs) (hb : Below w.heap.size w w') : Que w' p n xs :=
  h.buts (l := []) (Buts.of hb) (by simp)
theorem Que.lt {w : World} {p n : Nat} {xs : List Int} (h : Que w p n xs) : p < w.heap.size := by
  obtain ⟨f, ys, hf, hr, hh⟩ := h.raw
  exact hr.lt
theorem one_below {p B : Nat} {w w' : World} (h : Buts [p] w w') (hp : B ≤ p) (hB : B ≤ w.heap.size) : Below B w w' :=
  h.below (fun x hx => by simp only [List.mem_cons, List.not_mem_nil, or_false] at hx; omega) hB
end Go.Proofs.YteicnekoogmmmaaGreatDoor
