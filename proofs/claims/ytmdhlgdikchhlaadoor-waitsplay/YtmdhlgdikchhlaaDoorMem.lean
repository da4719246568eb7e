/- What lies in memory: rows that are read, rows of one's own, a chain of links; blocks that stay as they were. No law of the program itself. -/
import Derived.Test.YtmdhlgdikchhlaaDoorPure
import Derived.Laws.CopyOwn
import Derived.Laws.MakeOwn
import Derived.Laws.OwnMore
import Derived.Deep.RegionLaw
import Derived.Deep.QuietTactic
import Derived.BigQuiet
import Derived.Deep.CutRange
import Derived.Deep.RegionWith
import Derived.Deep.RegionHeld3
import Derived.Deep.CutBlock
import Derived.ArgAppend
namespace Go.Proofs.YtmdhlgdikchhlaaDoor
open Go Go.RowKit
set_option maxRecDepth 100000
set_option linter.unusedVariables false
/-- numbers as cells -/
def num (zs : List Int) : List Value := zs.map (Value.int .i64)
theorem alloc_at (w : World) (o : Obj) : (w.alloc o).heap[w.heap.size]? = some o := by show (w.heap.push o)[w.heap.size]? = some o; exact Array.getElem?_push_size
theorem alloc_size (w : World) (o : Obj) : (w.alloc o).heap.size = w.heap.size + 1 := by show (w.heap.push o).size = _; exact Array.size_push _
theorem alloc_below (w : World) (o : Obj) : Below w.heap.size w (w.alloc o) := (Below.refl _ _).alloc (Nat.le_refl _) _
theorem cell_of {w : World} {b i : Nat} {cs : Array Value} {t : TypeId} {k : Nat × Nat} (h : w.heap[b]? = some (.cells cs t k)) : w.cell? ⟨b, i, none⟩ = cs[i]? := by
  simp [World.cell?, h]
theorem at_lt {w : World} {g : Nat} {o : Obj} (h : w.heap[g]? = some o) : g < w.heap.size := by
  rcases Nat.lt_or_ge g w.heap.size with k | k
  · exact k
  · rw [Array.getElem?_eq_none k] at h; cases h
theorem cell_lt {w : World} {n i : Nat} {v : Value} (h : w.cell? ⟨n, i, none⟩ = some v) : n < w.heap.size := by
  by_cases hn : n < w.heap.size
  · exact hn
  · rw [World.cell?] at h
    simp [Array.getElem?_eq_none (Nat.le_of_not_lt hn)] at h
theorem below_drewN (w : World) : ∀ n, Below w.heap.size w (w.drewN n)
  | 0 => Below.refl _ _
  | n + 1 => by
    have := below_drewN w n
    exact ⟨this.os, this.tape, this.output, this.size, this.block⟩
/-- a slice of numbers that is read -/
def Src (w : World) (sp : Option Addr) (zs : List Int) : Prop :=
  0 < zs.length → ∃ b off, sp = some ⟨b, off, none⟩ ∧ ∀ i, i < zs.length → w.cell? ⟨b, off + i, none⟩ = some (.int .i64 (zs.getD i 0))
theorem Src.below {w w' : World} {sp : Option Addr} {zs : List Int} (h : Src w sp zs) (hb : Below w.heap.size w w') : Src w' sp zs := by
  intro hz
  obtain ⟨b, off, e, hc⟩ := h hz
  exact ⟨b, off, e, fun i hi => by rw [hb.cell (p := ⟨b, off + i, none⟩) (cell_lt (hc i hi))]; exact hc i hi⟩
theorem Src.own {w : World} {B : Nat} {v : Value} {zs : List Int} (h : w.ownsRow B 3 1 v zs.length (zs.map (Value.int .i64))) : ∃ sp cap, v = .slice sp zs.length cap ∧ Src w sp zs := by
  rcases h.2 with ⟨rfl, h0⟩ | ⟨g, cap, cur, rfl, _⟩
  · exact ⟨none, 0, by rw [h0], fun hz => by omega⟩
  · exact ⟨_, cap, rfl, fun _ => ⟨g, 0, rfl, fun i hi => by rw [Nat.zero_add, h.cellAt i (by omega)]; simp [hi]⟩⟩
/-- blocks that are as they were, but for those of a list -/
structure Buts (l : List Nat) (w w' : World) : Prop where
  os : w'.os = w.os
  tape : w'.tape = w.tape
  output : w'.output = w.output
  size : w.heap.size ≤ w'.heap.size
  block : ∀ k, k < w.heap.size → k ∉ l → w'.heap[k]? = w.heap[k]?
theorem Buts.refl (l : List Nat) (w : World) : Buts l w w := ⟨rfl, rfl, rfl, Nat.le_refl _, fun _ _ _ => rfl⟩
theorem Buts.trans {l : List Nat} {a b c : World} (h : Buts l a b) (k : Buts l b c) : Buts l a c :=
  ⟨k.os.trans h.os, k.tape.trans h.tape, k.output.trans h.output, Nat.le_trans h.size k.size, fun i hi hg => (k.block i (Nat.lt_of_lt_of_le hi h.size) hg).trans (h.block i hi hg)⟩
theorem Buts.mono {l m : List Nat} {a b : World} (h : Buts l a b) (hm : ∀ x ∈ l, x ∈ m) : Buts m a b :=
  ⟨h.os, h.tape, h.output, h.size, fun i hi hg => h.block i hi fun e => hg (hm i e)⟩
theorem Buts.of {l : List Nat} {w w' : World} (h : Below w.heap.size w w') : Buts l w w' := ⟨h.os, h.tape, h.output, h.size, fun k hk _ => h.block k hk⟩
theorem Buts.below {l : List Nat} {B : Nat} {w w' : World} (h : Buts l w w') (hg : ∀ x ∈ l, B ≤ x) (hB : B ≤ w.heap.size) : Below B w w' :=
  ⟨h.os, h.tape, h.output, h.size, fun k hk => h.block k (by omega) (fun e => by have := hg k e; omega)⟩
theorem Buts.drew {l : List Nat} {a b : World} (h : Buts l a b) : Buts l a b.drew := ⟨h.os, h.tape, h.output, h.size, h.block⟩
theorem Buts.cell (w : World) (g k : Nat) (v : Value) : Buts [g] w (w.setCell ⟨g, k, none⟩ v) :=
  ⟨rfl, rfl, rfl, by simp [World.setCell], fun j hj hg => Below.heap_setCell _ _ _ _ (by simpa using hg)⟩
theorem Buts.grown {w w' : World} {row : Option Nat} (h : w.grownBy w' row) : Buts row.toList w w' :=
  ⟨h.os, h.tape, h.output, h.size, fun k hk hg => h.block k hk (fun e => hg (by rw [← e]; simp))⟩
/-- a row that a slice owns stays, where its block does -/
theorem owns_of {w w' : World} {B : Nat} {e : TypeId} {s : Nat} {v : Value} {n : Nat} {xs : List Value} (h : w.ownsRow B e s v n xs) (hb : ∀ g, v.ownBlock = some g → w'.heap[g]? = w.heap[g]?) : w'.ownsRow B e s v n xs := by
  obtain ⟨h1, h2⟩ := h
  refine ⟨h1, ?_⟩
  rcases h2 with h2 | ⟨g, cap, cur, rfl, hg, hh, r⟩
  · exact Or.inl h2
  · exact Or.inr ⟨g, cap, cur, rfl, hg, by rw [hb g rfl]; exact hh, r⟩
theorem owns_buts {w w' : World} {B : Nat} {e : TypeId} {s : Nat} {v : Value} {n : Nat} {xs : List Value} {l : List Nat} (h : w.ownsRow B e s v n xs) (hb : Buts l w w') (hl : ∀ g, v.ownBlock = some g → g ∉ l) : w'.ownsRow B e s v n xs :=
  owns_of h fun g hg => hb.block g (h.lt g hg).2 (hl g hg)
theorem owns_spot {w : World} {B : Nat} {e : TypeId} {s : Nat} {v : Value} {n : Nat} {xs : List Value} (h : w.ownsRow B e s v n xs) (hn : 0 < n) : ∃ g cap, v = .slice (some ⟨g, 0, none⟩) n cap ∧ n ≤ cap ∧ cap ≤ maxLen := by
  rcases h.2 with ⟨_, h0⟩ | ⟨g, cap, cur, rfl, _, _, hc, hm, _⟩
  · omega
  · exact ⟨g, cap, rfl, hc, hm⟩
/-- append to a row of one's own, as one step of a region that draws its order -/
theorem step_append_own {P : Program} {ops : Array Oper} {o : Oper} {a : Act} {w : World} {K : Act → World → Prop} {Q : Exit → Act → World → Prop} {X : Prop} (hgd : o.guard = none) (s x : Operand) (t : TypeId)
    (ho : o.op = .call { callee := .builtin .append, args := #[s, x], argTypes := #[t, t] })
    (base : Nat) (e : TypeId) (i : TypeInfo) (z : Value) (size bytes : Nat) (ht : P.underlying t = some (.slice e)) (hi : P.info? e = some i) (hz : i.zero = some z)
    (hsize : i.size = size) (hby : i.bytes = bytes) (hzs : z.cells.size = size) (hsz : 0 < size)
    (v : Value) (n : Nat) (xs : List Value) (hs : a.eval s = v) (hown : w.ownsRow base e size v n xs)
    (ad : Addr) (m c : Nat) (news : List Value) (hx : a.eval x = .slice (some ad) m c) (hl : news.length = m * size) (hnews : ∀ j u, news[j]? = some u → w.cell? (ad.add j) = some u) (h1 : ∀ u ∈ news, u.oneCell' = true)
    (h63 : n + m ≤ maxLen) (hbytes : (n + m) * bytes ≤ 140737488355328) (hbase : base ≤ w.heap.size)
    (h : ∀ v' w', w'.ownsRow base e size v' (n + m) (xs ++ news) → w.grownBy w' v.ownBlock → (v' = .slice none 0 0 ↔ v = .slice none 0 0 ∧ m = 0) → K (a.put o.dst v') w') :
    if Region.wanted o (yielded ops a.tmps) = true then Oper.wp P o a w K Q else X := by
  have hw : Region.wanted o (yielded ops a.tmps) = true := by simp [Region.wanted, hgd]
  rw [if_pos hw]
  obtain ⟨v', w', hr, h2, h3, h4⟩ := run_append_own (P := P) w base t o.type e i z size bytes ht hi hz hsize hby hzs hsz v n xs hown ad m c news hl hnews h1 h63 hbytes hbase
  unfold Oper.wp execOp
  simp only [ho, resolve, invoke, builtin, Sem.run_bind, Sem.run_pure, Result.andThen_ok, List.map_toArray, List.map_cons, List.map_nil, hs, hx, hr]
  exact h v' w' h2 h3 h4
theorem own_form {w : World} {B : Nat} {v : Value} {n : Nat} {xs : List Value} {t : TypeId} {s : Nat} (h : w.ownsRow B t s v n xs) : ∃ sp cap, v = .slice sp n cap ∧ (0 < n → ∃ g, sp = some ⟨g, 0, none⟩) ∧ (sp = none ∨ ∃ g, sp = some ⟨g, 0, none⟩ ∧ w.heap[g]?.isSome ∧ ∃ cur, w.heap[g]? = some (.cells cur t (0, 0))) ∧ n ≤ maxLen := by
  rcases h.2 with ⟨rfl, rfl⟩ | ⟨g, cap, cur, rfl, _, hh, hc, hm, _⟩
  · exact ⟨none, 0, rfl, by omega, Or.inl rfl, by simp⟩
  · exact ⟨some ⟨g, 0, none⟩, cap, rfl, fun _ => ⟨g, rfl⟩, Or.inr ⟨g, rfl, by simp [hh], cur, hh⟩, by omega⟩
theorem block_ne {w : World} {B g : Nat} {v : Value} {n : Nat} {xs : List Value} {t t' : TypeId} {s : Nat} {cs : Array Value} {f : Nat × Nat} (h : w.ownsRow B t s v n xs) (hv : v.ownBlock = some g) {K : Nat} (hK : w.heap[K]? = some (.cells cs t' f)) (ht : t ≠ t') : g ≠ K := by
  rintro rfl
  rcases h.2 with ⟨rfl, _⟩ | ⟨g', c, cur, rfl, _, hh, _⟩
  · simp [Value.ownBlock] at hv
  · have : g' = g := by simpa [Value.ownBlock] using hv
    subst this
    rw [hK] at hh
    simp only [Option.some.injEq, Obj.cells.injEq] at hh
    exact ht hh.2.1.symm
theorem own_ne {w : World} {B B' g H : Nat} {v v' : Value} {n n' : Nat} {xs xs' : List Value} {t t' : TypeId} {s s' : Nat} (h : w.ownsRow B t s v n xs) (hv : v.ownBlock = some g) (h' : w.ownsRow B' t' s' v' n' xs') (hv' : v'.ownBlock = some H) (ht : t ≠ t') : g ≠ H := by
  rcases h'.2 with ⟨rfl, _⟩ | ⟨g', c, cur, rfl, _, hh, _⟩
  · simp [Value.ownBlock] at hv'
  · have : g' = H := by simpa [Value.ownBlock] using hv'
    subst this
    exact block_ne h hv hh ht
theorem cell1 (w : World) (x : Value) (t : TypeId) : ∀ j u, ([x] : List Value)[j]? = some u → (w.alloc (.cells #[x] t)).cell? ((⟨w.heap.size, 0, none⟩ : Addr).add j) = some u := by
  intro j u hj
  have hadd : (⟨w.heap.size, 0, none⟩ : Addr).add j = ⟨w.heap.size, 0 + j, none⟩ := by unfold Addr.add; split <;> simp_all
  rw [hadd, Nat.zero_add, cell_of (alloc_at w _)]
  rcases j with _ | j
  · exact hj
  · simp at hj
theorem owns_below {w w' : World} {B m : Nat} {v : Value} {xs : List Value} (h : w.ownsRow B 3 1 v m xs) (hb : Below w.heap.size w w') : w'.ownsRow B 3 1 v m xs :=
  owns_of h fun g hg => hb.block g (h.lt g hg).2
theorem owns_base {w : World} {B B' m s : Nat} {t : TypeId} {v : Value} {xs : List Value} (h : w.ownsRow B' t s v m xs) (hb : B ≤ B') : w.ownsRow B t s v m xs := by
  obtain ⟨h1, h2⟩ := h
  refine ⟨h1, ?_⟩
  rcases h2 with h2 | ⟨g, cap, cur, rfl, hg, r⟩
  · exact Or.inl h2
  · exact Or.inr ⟨g, cap, cur, rfl, by omega, r⟩
theorem num_len (zs : List Int) : (num zs).length = zs.length := by simp [num]
theorem num_at (zs : List Int) (i : Nat) (h : i < zs.length) : (num zs)[i]? = some (.int .i64 (zs.getD i 0)) := by simp [num, h]
/-- a row of numbers -/
def Row (w : World) (g : Nat) (zs : List Int) : Prop := w.heap[g]? = some (.cells (num zs).toArray 3 (0, 0))
theorem Row.lt {w : World} {g : Nat} {zs : List Int} (h : Row w g zs) : g < w.heap.size := at_lt h
theorem Row.cell {w : World} {g : Nat} {zs : List Int} (h : Row w g zs) (i : Nat) (hi : i < zs.length) : w.cell? ⟨g, i, none⟩ = some (.int .i64 (zs.getD i 0)) := by
  rw [cell_of h]
  simpa using num_at zs i hi
theorem Row.free {w : World} {g : Nat} {zs : List Int} (h : Row w g zs) (i : Nat) : w.frozen? ⟨g, i, none⟩ = false := by unfold Row at h; simp [World.frozen?, h]
theorem Row.set {w : World} {g : Nat} {zs : List Int} (h : Row w g zs) (k : Nat) (v : Int) : Row (w.setCell ⟨g, k, none⟩ (.int .i64 v)) g (zs.set k v) := by
  have hl := h.lt
  have hv : w.heap[g] = .cells (num zs).toArray 3 (0, 0) := (Array.getElem?_eq_some_iff.1 h).2
  unfold Row World.setCell
  rw [Array.getElem?_eq_getElem (by simpa using hl), Array.getElem_modify]
  simp [hv, num]
theorem Row.buts {w w' : World} {g : Nat} {xs : List Int} {l : List Nat} (h : Row w g xs) (hb : Buts l w w') (hg : g ∉ l) : Row w' g xs := (hb.block g h.lt hg).trans h
theorem Row.below {w w' : World} {g : Nat} {xs : List Int} (h : Row w g xs) (hb : Below w.heap.size w w') : Row w' g xs := (hb.block g h.lt).trans h
theorem info_parts' {P : Program} {t : TypeId} {v : Value} {s b : Nat} (h : (P.info? t).map (fun i => (i.zero, i.size, i.bytes)) = some (some v, s, b)) : ∃ i, P.info? t = some i ∧ i.zero = some v ∧ i.size = s ∧ i.bytes = b := by
  obtain ⟨i, hi, he⟩ := Option.map_eq_some_iff.1 h
  exact ⟨i, hi, by simpa using congrArg Prod.fst he, by simpa using congrArg (fun x => x.2.1) he, by simpa using congrArg (fun x => x.2.2) he⟩
theorem infoW : (Tryd.prog.info? 3).map (fun i => (i.zero, i.size, i.bytes)) = some (some (.int .i64 0), 1, 8) := by kernel_rfl
/-- links as cells -/
def lks : List (Int × Int) → List Value
  | [] => []
  | x :: r => .int .i64 x.1 :: .int .i64 x.2 :: lks r
theorem lks_len : ∀ ds : List (Int × Int), (lks ds).length = ds.length * 2
  | [] => rfl
  | x :: r => by simp [lks, lks_len r]; omega
theorem lks_app : ∀ ds es : List (Int × Int), lks (ds ++ es) = lks ds ++ lks es
  | [], _ => rfl
  | x :: r, es => by simp [lks, lks_app r]
theorem lks_take : ∀ (ds : List (Int × Int)) (k : Nat), lks (ds.take k) = (lks ds).take (k * 2)
  | [], k => by simp [lks]
  | x :: r, 0 => by simp [lks]
  | x :: r, k + 1 => by
    rw [show (k + 1) * 2 = k * 2 + 1 + 1 by omega]
    simp [lks, lks_take r]
theorem lks_drop : ∀ (ds : List (Int × Int)) (k : Nat), lks (ds.drop k) = (lks ds).drop (k * 2)
  | [], k => by simp [lks]
  | x :: r, 0 => by simp [lks]
  | x :: r, k + 1 => by
    rw [show (k + 1) * 2 = k * 2 + 1 + 1 by omega]
    simp [lks, lks_drop r]
theorem lks_at : ∀ (ds : List (Int × Int)) (i : Nat), i < ds.length → (lks ds)[i * 2]? = some (.int .i64 (ds.getD i (0, 0)).1) ∧ (lks ds)[i * 2 + 1]? = some (.int .i64 (ds.getD i (0, 0)).2)
  | [], _, h => by simp at h
  | x :: r, 0, _ => by simp [lks]
  | x :: r, i + 1, h => by
    rw [show (i + 1) * 2 = i * 2 + 1 + 1 by omega]
    have := lks_at r i (by simpa using h)
    simpa [lks] using this
theorem lks_one (ds : List (Int × Int)) : ∀ u ∈ lks ds, u.oneCell' = true := by
  induction ds with
  | nil => simp [lks]
  | cons x r ih =>
    intro u hu
    simp only [lks, List.mem_cons] at hu
    rcases hu with rfl | rfl | hu
    · rfl
    · rfl
    · exact ih u hu
theorem lks_set : ∀ (ds : List (Int × Int)) (k : Nat) (z : Int), k < ds.length → (lks ds).set (k * 2 + 1) (.int .i64 z) = lks (ds.set k ((ds.getD k (0, 0)).1, z))
  | [], _, _, h => by simp at h
  | x :: r, 0, z, _ => by simp [lks]
  | x :: r, k + 1, z, h => by
    rw [show (k + 1) * 2 = k * 2 + 1 + 1 by omega]
    have := lks_set r k z (by simpa using h)
    simp only [lks, List.set_cons_succ, List.getD_cons_succ]
    rw [this]
theorem set_block {w : World} {p : Nat} {cs : Array Value} {t : TypeId} (h : w.heap[p]? = some (.cells cs t (0, 0))) (k : Nat) (v : Value) : (w.setCell ⟨p, k, none⟩ v).heap[p]? = some (.cells (cs.setIfInBounds k v) t (0, 0)) := by
  have hl := at_lt h
  have hh := (Array.getElem?_eq_some_iff.1 h).2
  unfold World.setCell
  rw [Array.getElem?_eq_getElem (by simpa using hl), Array.getElem_modify]
  simp [hh]
theorem addr_add (g k j : Nat) : (⟨g, k, none⟩ : Addr).add j = ⟨g, k + j, none⟩ := by unfold Addr.add; split <;> simp_all
/-- the address of a link -/
def lp (b : Option Nat) : Value := .pointer (b.map fun b => ⟨b, 0, none⟩)
/-- a chain of links: where they lie, and what stands in them -/
structure Ch (w : World) (bs : List Nat) (ys : List (Int × Int)) : Prop where
  len : bs.length = ys.length
  nd : bs.Nodup
  lnk : ∀ (i b : Nat) (y : Int × Int), bs[i]? = some b → ys[i]? = some y → w.heap[b]? = some (.cells #[.int .i64 y.1, .int .i64 y.2, lp bs[i + 1]?] 54 (0, 0))
theorem Ch.keep {w w' : World} {bs : List Nat} {ys : List (Int × Int)} (h : Ch w bs ys) (hk : ∀ b ∈ bs, w'.heap[b]? = w.heap[b]?) : Ch w' bs ys :=
  ⟨h.len, h.nd, fun i b y hb hy => (hk b (List.mem_of_getElem? hb)).trans (h.lnk i b y hb hy)⟩
theorem Ch.mem {w : World} {bs : List Nat} {ys : List (Int × Int)} (h : Ch w bs ys) {b : Nat} (hb : b ∈ bs) : ∃ cs, w.heap[b]? = some (.cells cs 54 (0, 0)) := by
  obtain ⟨i, hi, e⟩ := List.getElem_of_mem hb
  exact ⟨_, h.lnk i b (ys[i]'(by have := h.len; omega)) (by rw [List.getElem?_eq_getElem hi, e]) (List.getElem?_eq_getElem _)⟩
theorem Ch.lt {w : World} {bs : List Nat} {ys : List (Int × Int)} (h : Ch w bs ys) {b : Nat} (hb : b ∈ bs) : b < w.heap.size := by
  obtain ⟨cs, e⟩ := h.mem hb
  exact at_lt e
theorem nodup_get {bs : List Nat} (h : bs.Nodup) {i j b : Nat} (hi : bs[i]? = some b) (hj : bs[j]? = some b) : i = j := by
  obtain ⟨li, ei⟩ := List.getElem?_eq_some_iff.1 hi
  obtain ⟨lj, ej⟩ := List.getElem?_eq_some_iff.1 hj
  exact (List.getElem_inj (h₀ := li) (h₁ := lj) h).1 (ei.trans ej.symm)
/-- one more just behind a link -/
theorem Ch.add {w w' : World} {bs : List Nat} {ys : List (Int × Int)} (h : Ch w bs ys) {k a nb : Nat} {y z : Int × Int} (ha : bs[k]? = some a) (hy : ys[k]? = some y) (hn : nb ∉ bs)
    (h1 : w'.heap[nb]? = some (.cells #[.int .i64 z.1, .int .i64 z.2, lp bs[k + 1]?] 54 (0, 0))) (h2 : w'.heap[a]? = some (.cells #[.int .i64 y.1, .int .i64 y.2, lp (some nb)] 54 (0, 0)))
    (hk : ∀ b ∈ bs, b ≠ a → w'.heap[b]? = w.heap[b]?) : Ch w' (bs.insertIdx (k + 1) nb) (ys.insertIdx (k + 1) z) := by
  have hl := h.len
  have hkl : k < bs.length := (List.getElem?_eq_some_iff.1 ha).1
  refine ⟨?_, ?_, ?_⟩
  · rw [List.length_insertIdx_of_le_length (by omega), List.length_insertIdx_of_le_length (by omega), hl]
  · rw [insert_split bs _ nb (by omega), List.perm_middle.nodup_iff, List.take_append_drop]
    exact List.nodup_cons.2 ⟨hn, h.nd⟩
  · intro i b x hb hx
    rcases Nat.lt_trichotomy i (k + 1) with c | rfl | c
    · rw [List.getElem?_insertIdx_of_lt c] at hb hx
      by_cases e : i = k
      · subst e
        rw [ha] at hb; rw [hy] at hx
        cases hb; cases hx
        rw [List.getElem?_insertIdx_self, if_pos (by omega)]
        exact h2
      · rw [List.getElem?_insertIdx_of_lt (show i + 1 < k + 1 by omega), hk b (List.mem_of_getElem? hb) (fun e' => e (nodup_get h.nd (e' ▸ hb) ha))]
        exact h.lnk i b x hb hx
    · rw [List.getElem?_insertIdx_self, if_pos (by omega)] at hb hx
      cases hb; cases hx
      rw [List.getElem?_insertIdx_of_gt (show k + 1 < k + 1 + 1 by omega)]
      exact h1
    · rw [List.getElem?_insertIdx_of_gt c] at hb hx
      rw [List.getElem?_insertIdx_of_gt (show k + 1 < i + 1 by omega), hk b (List.mem_of_getElem? hb) (fun e' => by have := nodup_get h.nd (e' ▸ hb) ha; omega)]
      have := h.lnk (i - 1) b x hb hx
      rwa [show i - 1 + 1 = i + 1 - 1 by omega] at this
/-- one less just behind a link -/
theorem Ch.drop {w w' : World} {bs : List Nat} {ys : List (Int × Int)} (h : Ch w bs ys) {k a : Nat} {y : Int × Int} (ha : bs[k]? = some a) (hy : ys[k]? = some y)
    (h2 : w'.heap[a]? = some (.cells #[.int .i64 y.1, .int .i64 y.2, lp bs[k + 2]?] 54 (0, 0)))
    (hk : ∀ b ∈ bs, b ≠ a → w'.heap[b]? = w.heap[b]?) : Ch w' (bs.eraseIdx (k + 1)) (ys.eraseIdx (k + 1)) := by
  have hl := h.len
  refine ⟨by rw [List.length_eraseIdx, List.length_eraseIdx, hl], h.nd.sublist (List.eraseIdx_sublist _ _), ?_⟩
  intro i b x hb hx
  rw [List.getElem?_eraseIdx] at hb hx ⊢
  by_cases c : i < k + 1
  · rw [if_pos c] at hb hx
    by_cases e : i = k
    · subst e
      rw [ha] at hb; rw [hy] at hx
      cases hb; cases hx
      rw [if_neg (by omega)]
      exact h2
    · rw [if_pos (by omega), hk b (List.mem_of_getElem? hb) (fun e' => e (nodup_get h.nd (e' ▸ hb) ha))]
      exact h.lnk i b x hb hx
  · rw [if_neg c] at hb hx
    rw [if_neg (by omega), hk b (List.mem_of_getElem? hb) (fun e' => by have := nodup_get h.nd (e' ▸ hb) ha; omega)]
    exact h.lnk (i + 1) b x hb hx
/-- all but links stay as they were -/
structure Ln (B : Nat) (w w' : World) : Prop where
  low : Below B w w'
  oth : ∀ (k : Nat) (cs : Array Value) (t : TypeId) (f : Nat × Nat), w.heap[k]? = some (.cells cs t f) → t ≠ 54 → w'.heap[k]? = w.heap[k]?
theorem Ln.refl (B : Nat) (w : World) : Ln B w w := ⟨Below.refl _ _, fun _ _ _ _ _ _ => rfl⟩
theorem Ln.trans {B : Nat} {a b c : World} (h : Ln B a b) (k : Ln B b c) : Ln B a c :=
  ⟨h.low.trans k.low, fun i cs t f hc ht => by
    have e := h.oth i cs t f hc ht
    rw [k.oth i cs t f (e.trans hc) ht, e]⟩
theorem Ln.of {B : Nat} {w w' : World} (h : Below w.heap.size w w') (hB : B ≤ w.heap.size) : Ln B w w' := ⟨h.mono hB, fun k cs t f hc _ => h.block k (at_lt hc)⟩
/-- a link is set -/
theorem Ln.cell {B : Nat} {w : World} {b : Nat} {cs : Array Value} (h : w.heap[b]? = some (.cells cs 54 (0, 0))) (hB : B ≤ b) (i : Nat) (v : Value) : Ln B w (w.setCell ⟨b, i, none⟩ v) :=
  ⟨(Buts.cell w b i v).below (by simpa using hB) (by have := at_lt h; omega), fun k cs' t f hc ht => (Buts.cell w b i v).block k (at_lt hc) (by
    simp only [List.mem_singleton]
    rintro rfl
    rw [h] at hc
    simp only [Option.some.injEq, Obj.cells.injEq] at hc
    exact ht hc.2.1.symm)⟩
/-- a queue of those who wait, at block p: where its links lie is told, too -/
structure Que (B : Nat) (w : World) (p : Nat) (bs : List Nat) (xs : List (Int × Int)) : Prop where
  head : w.heap[p]? = some (.cells #[lp bs[0]?] 56 (0, 0))
  ch : Ch w bs ((0, 0) :: xs)
  lo : B ≤ p
  los : ∀ b ∈ bs, B ≤ b
  len : xs.length ≤ 1000
theorem Que.keep {B : Nat} {w w' : World} {p : Nat} {bs : List Nat} {xs : List (Int × Int)} (h : Que B w p bs xs) (hp : w'.heap[p]? = w.heap[p]?) (hk : ∀ b ∈ bs, w'.heap[b]? = w.heap[b]?) : Que B w' p bs xs :=
  ⟨hp.trans h.head, h.ch.keep hk, h.lo, h.los, h.len⟩
theorem Que.below {B : Nat} {w w' : World} {p : Nat} {bs : List Nat} {xs : List (Int × Int)} (h : Que B w p bs xs) (hb : Below w.heap.size w w') : Que B w' p bs xs :=
  h.keep (hb.block p (at_lt h.head)) fun b hm => hb.block b (h.ch.lt hm)
theorem Que.drew {B : Nat} {w : World} {p : Nat} {bs : List Nat} {xs : List (Int × Int)} (h : Que B w p bs xs) (k : Nat) : Que B (w.drewN k) p bs xs := h.below (below_drewN _ _)
theorem Que.blen {B : Nat} {w : World} {p : Nat} {bs : List Nat} {xs : List (Int × Int)} (h : Que B w p bs xs) : bs.length = xs.length + 1 := by rw [h.ch.len]; rfl
/-- where a link lies -/
def bat (bs : List Nat) (i : Nat) : Nat := bs.getD i 0
theorem bat_get {bs : List Nat} {i : Nat} (h : i < bs.length) : bs[i]? = some (bat bs i) := by simp [bat, List.getD_eq_getElem?_getD, h]
theorem Que.start {B : Nat} {w : World} {p : Nat} {bs : List Nat} {xs : List (Int × Int)} (h : Que B w p bs xs) : w.cell? ⟨p, 0, none⟩ = some (.pointer (some ⟨bat bs 0, 0, none⟩)) := by
  rw [cell_of h.head, bat_get (by have := h.blen; omega)]
  rfl
/-- the value in a link -/
def yat (xs : List (Int × Int)) (i : Nat) : Int × Int := ((0, 0) :: xs).getD i (0, 0)
theorem yat_succ (xs : List (Int × Int)) (i : Nat) : yat xs (i + 1) = xs.getD i (0, 0) := rfl
/-- what stands behind a link -/
def nxt (bs : List Nat) (i : Nat) : Option Addr := (bs[i + 1]?).map fun b => ⟨b, 0, none⟩
theorem nxt_some {bs : List Nat} {i : Nat} (h : i + 1 < bs.length) : nxt bs i = some ⟨bat bs (i + 1), 0, none⟩ := by rw [nxt, bat_get h]; rfl
theorem nxt_none {bs : List Nat} {i : Nat} (h : bs.length ≤ i + 1) : nxt bs i = none := by rw [nxt, List.getElem?_eq_none h]; rfl
theorem Que.link {B : Nat} {w : World} {p : Nat} {bs : List Nat} {xs : List (Int × Int)} (h : Que B w p bs xs) {i : Nat} (hi : i ≤ xs.length) :
    w.heap[bat bs i]? = some (.cells #[.int .i64 (yat xs i).1, .int .i64 (yat xs i).2, .pointer (nxt bs i)] 54 (0, 0)) := by
  have hl := h.blen
  refine h.ch.lnk i (bat bs i) (yat xs i) (bat_get (by omega)) ?_
  rw [yat, List.getD_eq_getElem?_getD, List.getElem?_eq_getElem (by simp; omega)]
  rfl
theorem Que.cells {B : Nat} {w : World} {p : Nat} {bs : List Nat} {xs : List (Int × Int)} (h : Que B w p bs xs) {i : Nat} (hi : i ≤ xs.length) :
    w.cell? ⟨bat bs i, 0, none⟩ = some (.int .i64 (yat xs i).1) ∧ w.cell? ⟨bat bs i, 1, none⟩ = some (.int .i64 (yat xs i).2) ∧ w.cell? ⟨bat bs i, 2, none⟩ = some (.pointer (nxt bs i)) := by
  have := h.link hi
  exact ⟨by rw [cell_of this]; rfl, by rw [cell_of this]; rfl, by rw [cell_of this]; rfl⟩
theorem Que.free {B : Nat} {w : World} {p : Nat} {bs : List Nat} {xs : List (Int × Int)} (h : Que B w p bs xs) {i : Nat} (hi : i ≤ xs.length) (j : Nat) : w.frozen? ⟨bat bs i, j, none⟩ = false := by
  have := h.link hi
  simp [World.frozen?, this]
theorem Que.lt {B : Nat} {w : World} {p : Nat} {bs : List Nat} {xs : List (Int × Int)} (h : Que B w p bs xs) {i : Nat} (hi : i ≤ xs.length) : bat bs i < w.heap.size ∧ B ≤ bat bs i :=
  ⟨at_lt (h.link hi), h.los _ (List.mem_of_getElem? (bat_get (by have := h.blen; omega)))⟩
theorem bat_ne {B : Nat} {w : World} {p : Nat} {bs : List Nat} {xs : List (Int × Int)} (h : Que B w p bs xs) {i j : Nat} (hi : i ≤ xs.length) (hj : j ≤ xs.length) (e : i ≠ j) : bat bs i ≠ bat bs j := fun k => by
  have hl := h.blen
  have h1 := bat_get (bs := bs) (i := i) (by omega)
  have h2 := bat_get (bs := bs) (i := j) (by omega)
  rw [k] at h1
  exact e (nodup_get h.ch.nd h1 h2)
theorem Que.nep {B : Nat} {w : World} {p : Nat} {bs : List Nat} {xs : List (Int × Int)} (h : Que B w p bs xs) {b : Nat} (hb : b ∈ bs) : p ≠ b := by
  rintro rfl
  obtain ⟨cs, e⟩ := h.ch.mem hb
  rw [h.head] at e
  simp at e
/-- a link is added: a new block, and the link ahead of it set to it -/
theorem Que.add {B : Nat} {w w1 : World} {p : Nat} {bs : List Nat} {xs : List (Int × Int)} (h : Que B w p bs xs) {k : Nat} (hk : k ≤ xs.length) (hl : xs.length < 1000) (z : Int × Int) (hB : B ≤ w.heap.size)
    (hb : Below w.heap.size w w1) {nb : Nat} (hnb : w.heap.size ≤ nb) (hn : w1.heap[nb]? = some (.cells #[.int .i64 z.1, .int .i64 z.2, .pointer (nxt bs k)] 54 (0, 0))) :
    Que B (w1.setCell ⟨bat bs k, 2, none⟩ (.pointer (some ⟨nb, 0, none⟩))) p (bs.insertIdx (k + 1) nb) (xs.insertIdx k z) ∧ Ln B w (w1.setCell ⟨bat bs k, 2, none⟩ (.pointer (some ⟨nb, 0, none⟩))) := by
  have h1 := h.below hb
  have hbl := h.blen
  have hlk := h1.link hk
  have hlt := h.lt hk
  have ha := bat_get (bs := bs) (i := k) (by omega)
  have hyk : ((0, 0) :: xs)[k]? = some (yat xs k) := by rw [yat, List.getD_eq_getElem?_getD, List.getElem?_eq_getElem (by simp; omega)]; rfl
  have hnm : nb ∉ bs := fun hm => by have := h.ch.lt hm; omega
  refine ⟨⟨?_, ?_, h.lo, ?_, ?_⟩, (Ln.of hb hB).trans (Ln.cell hlk hlt.2 _ _)⟩
  · rw [Below.heap_setCell _ _ _ _ (h.nep (List.mem_of_getElem? ha)), h1.head, List.getElem?_insertIdx_of_lt (by omega)]
  · rw [← List.insertIdx_succ_cons]
    refine h1.ch.add (y := yat xs k) (nb := nb) ha hyk hnm ?_ ?_ fun b hm hne => Below.heap_setCell _ _ _ _ hne
    · rw [Below.heap_setCell _ _ _ _ (show nb ≠ bat bs k from fun e => hnm (by rw [e]; exact List.mem_of_getElem? ha)), hn]; rfl
    · rw [set_block hlk]; rfl
  · intro b hm
    rw [insert_split bs _ nb (by omega)] at hm
    rcases List.mem_cons.1 (List.perm_middle.mem_iff.1 hm) with rfl | hm
    · omega
    · rw [List.take_append_drop] at hm
      exact h.los b hm
  · rw [List.length_insertIdx_of_le_length hk]; omega
/-- the link behind one is taken out -/
theorem Que.drop {B : Nat} {w : World} {p : Nat} {bs : List Nat} {xs : List (Int × Int)} (h : Que B w p bs xs) {k : Nat} (hk : k < xs.length) :
    Que B (w.setCell ⟨bat bs k, 2, none⟩ (.pointer (nxt bs (k + 1)))) p (bs.eraseIdx (k + 1)) (xs.eraseIdx k) ∧ Ln B w (w.setCell ⟨bat bs k, 2, none⟩ (.pointer (nxt bs (k + 1)))) := by
  have hbl := h.blen
  have hlk := h.link (i := k) (by omega)
  have hlt := h.lt (i := k) (by omega)
  have ha := bat_get (bs := bs) (i := k) (by omega)
  have hyk : ((0, 0) :: xs)[k]? = some (yat xs k) := by rw [yat, List.getD_eq_getElem?_getD, List.getElem?_eq_getElem (by simp; omega)]; rfl
  refine ⟨⟨?_, ?_, h.lo, fun b hm => h.los b (List.mem_of_mem_eraseIdx hm), by rw [List.length_eraseIdx]; have := h.len; split <;> omega⟩, Ln.cell hlk hlt.2 _ _⟩
  · rw [Below.heap_setCell _ _ _ _ (h.nep (List.mem_of_getElem? ha)), h.head, List.getElem?_eraseIdx, if_pos (by omega)]
  · rw [← List.eraseIdx_cons_succ]
    refine h.ch.drop (y := yat xs k) ha hyk ?_ fun b hm hne => Below.heap_setCell _ _ _ _ hne
    rw [set_block hlk]; rfl
end Go.Proofs.YtmdhlgdikchhlaaDoor
