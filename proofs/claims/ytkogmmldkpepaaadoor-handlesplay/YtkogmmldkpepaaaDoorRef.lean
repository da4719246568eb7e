/- The document's own table, as it lies in memory, and what its functions answer. -/
import Derived.Test.YtkogmmldkpepaaaDoorSame
import Derived.Maps.AppendAt
namespace Go.Proofs.YtkogmmldkpepaaaDoor
open Go Go.RowKit
set_option maxRecDepth 100000
set_option linter.unusedVariables false
/-- the document's own table at block q -/
structure RLay (w : World) (q ga gb n : Nat) (s : Slots) : Prop where
  head : w.heap[q]? = some (.cells #[.slice (some ⟨ga, 0, none⟩) n n, .slice (some ⟨gb, 0, none⟩) n n] 61 (0, 0))
  age : ∃ cs, w.heap[ga]? = some (.cells cs 40 (0, 0)) ∧ ∀ i, i < n → cs[i]? = some (.int .u32 ((s i).1 : Nat))
  drp : ∃ cs, w.heap[gb]? = some (.cells cs 4 (0, 0)) ∧ ∀ i, i < n → cs[i]? = some (.bool (!(s i).2))
theorem heads_ne {w : World} {a b : Nat} {x y : Array Value} {t t' : TypeId} {f f' : Nat × Nat} (h : w.heap[a]? = some (.cells x t f)) (k : w.heap[b]? = some (.cells y t' f')) (ht : t ≠ t') : a ≠ b := by
  rintro rfl
  rw [h] at k
  simp only [Option.some.injEq, Obj.cells.injEq] at k
  exact ht k.2.1
theorem RLay.ne {w : World} {q ga gb n : Nat} {s : Slots} (h : RLay w q ga gb n s) : q ≠ ga ∧ q ≠ gb ∧ ga ≠ gb := by
  obtain ⟨ca, ha, _⟩ := h.age
  obtain ⟨cb, hb, _⟩ := h.drp
  exact ⟨heads_ne h.head ha (by decide), heads_ne h.head hb (by decide), heads_ne ha hb (by decide)⟩
theorem RLay.lt {w : World} {q ga gb n : Nat} {s : Slots} (h : RLay w q ga gb n s) : q < w.heap.size ∧ ga < w.heap.size ∧ gb < w.heap.size := by
  obtain ⟨ca, ha, _⟩ := h.age
  obtain ⟨cb, hb, _⟩ := h.drp
  exact ⟨at_lt h.head, at_lt ha, at_lt hb⟩
theorem RLay.c0 {w : World} {q ga gb n : Nat} {s : Slots} (h : RLay w q ga gb n s) : w.cell? ⟨q, 0, none⟩ = some (.slice (some ⟨ga, 0, none⟩) n n) := by rw [cell_of h.head]; rfl
theorem RLay.c1 {w : World} {q ga gb n : Nat} {s : Slots} (h : RLay w q ga gb n s) : w.cell? ⟨q, 1, none⟩ = some (.slice (some ⟨gb, 0, none⟩) n n) := by rw [cell_of h.head]; rfl
theorem RLay.ca {w : World} {q ga gb n : Nat} {s : Slots} (h : RLay w q ga gb n s) {i : Nat} (hi : i < n) : w.cell? ⟨ga, i, none⟩ = some (.int .u32 ((s i).1 : Nat)) := by
  obtain ⟨ca, ha, hc⟩ := h.age
  rw [cell_of ha, hc i hi]
theorem RLay.cb {w : World} {q ga gb n : Nat} {s : Slots} (h : RLay w q ga gb n s) {i : Nat} (hi : i < n) : w.cell? ⟨gb, i, none⟩ = some (.bool (!(s i).2)) := by
  obtain ⟨ca, ha, hc⟩ := h.drp
  rw [cell_of ha, hc i hi]
theorem RLay.fa {w : World} {q ga gb n : Nat} {s : Slots} (h : RLay w q ga gb n s) (i : Nat) : w.frozen? ⟨ga, i, none⟩ = false := by
  obtain ⟨ca, ha, hc⟩ := h.age
  simp [World.frozen?, ha]
theorem RLay.fb {w : World} {q ga gb n : Nat} {s : Slots} (h : RLay w q ga gb n s) (i : Nat) : w.frozen? ⟨gb, i, none⟩ = false := by
  obtain ⟨ca, ha, hc⟩ := h.drp
  simp [World.frozen?, ha]
theorem RLay.buts {w w' : World} {q ga gb n : Nat} {s : Slots} {l : List Nat} (h : RLay w q ga gb n s) (hb : Buts l w w') (h1 : q ∉ l) (h2 : ga ∉ l) (h3 : gb ∉ l) : RLay w' q ga gb n s := by
  have hl := h.lt
  obtain ⟨ca, ha, hca⟩ := h.age
  obtain ⟨cb, hbb, hcb⟩ := h.drp
  exact ⟨(hb.block q hl.1 h1).trans h.head, ⟨ca, (hb.block ga hl.2.1 h2).trans ha, hca⟩, ⟨cb, (hb.block gb hl.2.2 h3).trans hbb, hcb⟩⟩
theorem RLay.below {w w' : World} {q ga gb n : Nat} {s : Slots} (h : RLay w q ga gb n s) (hb : Below w.heap.size w w') : RLay w' q ga gb n s :=
  h.buts (l := []) (Buts.of hb) (by simp) (by simp) (by simp)
theorem RLay.congr {w : World} {q ga gb n : Nat} {s r : Slots} (h : RLay w q ga gb n s) (e : ∀ i, i < n → r i = s i) : RLay w q ga gb n r := by
  obtain ⟨ca, ha, hca⟩ := h.age
  obtain ⟨cb, hbb, hcb⟩ := h.drp
  exact ⟨h.head, ⟨ca, ha, fun i hi => by rw [e i hi]; exact hca i hi⟩, ⟨cb, hbb, fun i hi => by rw [e i hi]; exact hcb i hi⟩⟩
theorem RLay.setAge {w : World} {q ga gb n : Nat} {s : Slots} (h : RLay w q ga gb n s) (k v : Nat) : RLay (w.setCell ⟨ga, k, none⟩ (.int .u32 (v : Nat))) q ga gb n (upd s k (v, (s k).2)) := by
  have hn := h.ne
  obtain ⟨ca, ha, hca⟩ := h.age
  obtain ⟨cb, hbb, hcb⟩ := h.drp
  refine ⟨(Below.heap_setCell _ _ _ _ hn.1).trans h.head, ⟨_, set_block ha k _, fun i hi => ?_⟩, ⟨cb, (Below.heap_setCell _ _ _ _ (Ne.symm hn.2.2)).trans hbb, fun i hi => ?_⟩⟩
  · by_cases e : i = k
    · subst e; rw [upd_at, Array.getElem?_setIfInBounds_self_of_lt (get_lt (hca i hi))]
    · rw [upd_ne _ _ e, Array.getElem?_setIfInBounds_ne (Ne.symm e)]; exact hca i hi
  · by_cases e : i = k
    · subst e; rw [upd_at]; exact hcb i hi
    · rw [upd_ne _ _ e]; exact hcb i hi
theorem RLay.setDrp {w : World} {q ga gb n : Nat} {s : Slots} (h : RLay w q ga gb n s) (k : Nat) (b : Bool) : RLay (w.setCell ⟨gb, k, none⟩ (.bool b)) q ga gb n (upd s k ((s k).1, !b)) := by
  have hn := h.ne
  obtain ⟨ca, ha, hca⟩ := h.age
  obtain ⟨cb, hbb, hcb⟩ := h.drp
  refine ⟨(Below.heap_setCell _ _ _ _ hn.2.1).trans h.head, ⟨ca, (Below.heap_setCell _ _ _ _ hn.2.2).trans ha, fun i hi => ?_⟩, ⟨_, set_block hbb k _, fun i hi => ?_⟩⟩
  · by_cases e : i = k
    · subst e; rw [upd_at]; exact hca i hi
    · rw [upd_ne _ _ e]; exact hca i hi
  · by_cases e : i = k
    · subst e; rw [upd_at, Array.getElem?_setIfInBounds_self_of_lt (get_lt (hcb i hi))]; simp
    · rw [upd_ne _ _ e, Array.getElem?_setIfInBounds_ne (Ne.symm e)]; exact hcb i hi
structure Ref (w : World) (q ga gb n : Nat) (s : Slots) : Prop where
  lay : RLay w q ga gb n s
  lo : 1 ≤ n
  hi : n ≤ 256
  good : Good n s
theorem Ref.buts {w w' : World} {q ga gb n : Nat} {s : Slots} {l : List Nat} (h : Ref w q ga gb n s) (hb : Buts l w w') (h1 : q ∉ l) (h2 : ga ∉ l) (h3 : gb ∉ l) : Ref w' q ga gb n s := ⟨h.lay.buts hb h1 h2 h3, h.lo, h.hi, h.good⟩
theorem Ref.below {w w' : World} {q ga gb n : Nat} {s : Slots} (h : Ref w q ga gb n s) (hb : Below w.heap.size w w') : Ref w' q ga gb n s := ⟨h.lay.below hb, h.lo, h.hi, h.good⟩
theorem made_one (z : Value) (hz : z.cells = #[z]) (n : Nat) : madeCells z.cells n = (List.replicate n z).toArray := by
  rw [hz, ← toList_madeCells_one z n]
theorem make_words (w : World) (n : Nat) (hn : n ≤ 256) :
    (Instr.makeSlice 48 (.int .i64 n) (.int .i64 n)).run Tryd.prog w = .ok (.slice (some ⟨w.heap.size, 0, none⟩) n n) (w.alloc (.cells (List.replicate n (Value.int .u32 0)).toArray 40)) := by
  obtain ⟨i, hi, h1, h2, h3⟩ := info_parts infoW
  have := run_make w 48 40 i (.int .u32 0) Tryd.underlying48 hi h1 .i64 .i64 n n (by omega) (by omega) (by rw [h3]; omega) (by omega)
  rw [this, h2, Nat.mul_one, made_one _ rfl]
  simp
theorem infoB : (Tryd.prog.info? 4).map (fun i => (i.zero, i.size, i.bytes)) = some (some (.bool false), 1, 1) := by kernel_rfl
theorem make_bools (w : World) (n : Nat) (hn : n ≤ 256) :
    (Instr.makeSlice 59 (.int .i64 n) (.int .i64 n)).run Tryd.prog w = .ok (.slice (some ⟨w.heap.size, 0, none⟩) n n) (w.alloc (.cells (List.replicate n (Value.bool false)).toArray 4)) := by
  obtain ⟨i, hi, h1, h2, h3⟩ := info_parts infoB
  have := run_make w 59 4 i (.bool false) Tryd.underlying59 hi h1 .i64 .i64 n n (by omega) (by omega) (by rw [h3]; omega) (by omega)
  rw [this, h2, Nat.mul_one, made_one _ rfl]
  simp
/-- the first ones are set -/
def half (i : Nat) : Slots := fun j => (0, !decide (j < i))
theorem half_zero (i : Nat) : half 0 i = (0, true) := by simp [half]
theorem half_next (i : Nat) : upd (half i) i ((half i i).1, !true) = half (i + 1) := by
  funext j
  by_cases e : j = i
  · subst e; rw [upd_at]; simp [half]
  · rw [upd_ne _ _ e]
    simp only [half, Prod.mk.injEq, true_and]
    congr 1
    simp; omega
theorem new_lay {w : World} {q ga gb n : Nat} (h1 : w.heap[q]? = some (.cells #[.slice (some ⟨ga, 0, none⟩) n n, .slice (some ⟨gb, 0, none⟩) n n] 61 (0, 0))) (h2 : w.heap[ga]? = some (.cells (Array.replicate n (Value.int .u32 0)) 40 (0, 0))) (h3 : w.heap[gb]? = some (.cells (Array.replicate n (Value.bool false)) 4 (0, 0))) : RLay w q ga gb n (half 0) :=
  ⟨h1, ⟨_, h2, fun i hi => by rw [half_zero]; simp [hi]⟩, ⟨_, h3, fun i hi => by rw [half_zero]; simp [hi]⟩⟩
theorem three (w : World) (a b c : Obj) : (((w.alloc a).alloc b).alloc c).drew.heap[w.heap.size]? = some a ∧ (((w.alloc a).alloc b).alloc c).drew.heap[w.heap.size + 1]? = some b ∧ (((w.alloc a).alloc b).alloc c).drew.heap[w.heap.size + 1 + 1]? = some c ∧ Below w.heap.size w (((w.alloc a).alloc b).alloc c).drew := by
  have s1 := alloc_size w a
  have s2 := alloc_size (w.alloc a) b
  have s3 := alloc_size ((w.alloc a).alloc b) c
  have b1 := alloc_below w a
  have b2 := alloc_below (w.alloc a) b
  have b3 := alloc_below ((w.alloc a).alloc b) c
  have b4 := below_drewN (((w.alloc a).alloc b).alloc c) 1
  have h1 := alloc_at w a
  have h2 := alloc_at (w.alloc a) b
  have h3 := alloc_at ((w.alloc a).alloc b) c
  rw [s1] at h2
  rw [s2, s1] at h3
  refine ⟨?_, ?_, h3, ?_⟩
  · exact (b3.block _ (by omega)).trans ((b2.block _ (by omega)).trans h1)
  · exact (b3.block _ (by omega)).trans h2
  · exact b1.trans ((b2.mono b1.size).trans ((b3.mono (by omega)).trans (b4.mono (by omega))))
set_option maxHeartbeats 2000000 in
theorem rnew_yes {w : World} (n : Nat) (h1 : 1 ≤ n) (hn : n ≤ 256) :
    Calls Tryd.prog 5 #[.int .i64 n] w fun e w' => ∃ q, e = .returned (.tuple #[.pointer (some ⟨q, 0, none⟩), .int .i64 0]) ∧ ∃ ga gb, Ref w' q ga gb n none0 ∧ Below w.heap.size w w' ∧ w.heap.size ≤ q ∧ w.heap.size ≤ ga ∧ w.heap.size ≤ gb := by
  have a1 : ¬ (n : Int) < 1 := by omega
  have a2 : ¬ (256 : Int) < n := by omega
  have mk1 := fun wx => make_words wx n hn
  have mk2 := fun wx => make_bools wx n hn
  go_enter Tryd.func5, Tryd.ntmps5
  go_wp2
  go_region
  · obtain ⟨x1, x2, x3, xb⟩ := three w (.cells (Array.replicate n (Value.int .u32 0)) 40) (.cells (Array.replicate n (Value.bool false)) 4) (.cells #[.slice (some ⟨w.heap.size, 0, none⟩) n n, .slice (some ⟨w.heap.size + 1, 0, none⟩) n n] 61)
    have HR : Hid (RLay (((w.alloc (.cells (Array.replicate n (Value.int .u32 0)) 40)).alloc (.cells (Array.replicate n (Value.bool false)) 4)).alloc (.cells #[.slice (some ⟨w.heap.size, 0, none⟩) n n, .slice (some ⟨w.heap.size + 1, 0, none⟩) n n] 61)).drew (w.heap.size + 1 + 1) (w.heap.size) (w.heap.size + 1) n (half 0)) := new_lay x3 x1 x2
    have HB : Hid (Below w.heap.size w (((w.alloc (.cells (Array.replicate n (Value.int .u32 0)) 40)).alloc (.cells (Array.replicate n (Value.bool false)) 4)).alloc (.cells #[.slice (some ⟨w.heap.size, 0, none⟩) n n, .slice (some ⟨w.heap.size + 1, 0, none⟩) n n] 61)).drew) := xb
    clear x1 x2 x3 xb mk1 mk2
    generalize (((w.alloc (.cells (Array.replicate n (Value.int .u32 0)) 40)).alloc (.cells (Array.replicate n (Value.bool false)) 4)).alloc (.cells #[.slice (some ⟨w.heap.size, 0, none⟩) n n, .slice (some ⟨w.heap.size + 1, 0, none⟩) n n] 61)).drew = w3 at *
    go_wp2
    go_loopg [5] n (fun g s5 wx => ∃ i : Nat, i + g = n ∧ s5 = .int .i64 i ∧ Hid (RLay wx (w.heap.size + 1 + 1) (w.heap.size) (w.heap.size + 1) n (half i)) ∧ Hid (Below w.heap.size w wx))
    case atStart => exact ⟨0, by omega, rfl, HR, HB⟩
    case round =>
      clear HR HB
      obtain ⟨i, hig, rfl, HR, HB⟩ := hrel
      cases gk with
      | zero =>
        obtain rfl : n = i := by omega
        have hlt : ¬ ((n : Int) < n) := by omega
        go_wp2
        go_ret2
        refine ⟨_, rfl, (w.heap.size), (w.heap.size + 1), ⟨HR.out.congr (fun j hj => ?_), h1, hn, Good.zero n⟩, HB.out, by omega, by omega, by omega⟩
        simp [half, none0, hj]
      | succ g =>
        have hlt : (i : Int) < n := by omega
        have c1 := HR.out.c1
        have cb := HR.out.cb (i := i) (by omega)
        have fb := HR.out.fb i
        have HR2 : Hid (RLay (wr.setCell ⟨w.heap.size + 1, i, none⟩ (.bool true)) (w.heap.size + 1 + 1) (w.heap.size) (w.heap.size + 1) n (half (i + 1))) := by
          have := HR.out.setDrp i true
          rw [half_next] at this
          exact this
        have HB2 : Hid (Below w.heap.size w (wr.setCell ⟨w.heap.size + 1, i, none⟩ (.bool true))) := HB.out.trans ((Buts.cell wr (w.heap.size + 1) i (.bool true)).below (fun x hx => by simp only [List.mem_singleton] at hx; omega) HB.out.size)
        go_wp2
        go_roundg g
        case measure => omega
        case rel => exact ⟨i + 1, by omega, by go_num, HR2, HB2⟩
  · obtain ⟨x1, x2, x3, xb⟩ := three w (.cells (Array.replicate n (Value.bool false)) 4) (.cells (Array.replicate n (Value.int .u32 0)) 40) (.cells #[.slice (some ⟨w.heap.size + 1, 0, none⟩) n n, .slice (some ⟨w.heap.size, 0, none⟩) n n] 61)
    have HR : Hid (RLay (((w.alloc (.cells (Array.replicate n (Value.bool false)) 4)).alloc (.cells (Array.replicate n (Value.int .u32 0)) 40)).alloc (.cells #[.slice (some ⟨w.heap.size + 1, 0, none⟩) n n, .slice (some ⟨w.heap.size, 0, none⟩) n n] 61)).drew (w.heap.size + 1 + 1) (w.heap.size + 1) (w.heap.size) n (half 0)) := new_lay x3 x2 x1
    have HB : Hid (Below w.heap.size w (((w.alloc (.cells (Array.replicate n (Value.bool false)) 4)).alloc (.cells (Array.replicate n (Value.int .u32 0)) 40)).alloc (.cells #[.slice (some ⟨w.heap.size + 1, 0, none⟩) n n, .slice (some ⟨w.heap.size, 0, none⟩) n n] 61)).drew) := xb
    clear x1 x2 x3 xb mk1 mk2
    generalize (((w.alloc (.cells (Array.replicate n (Value.bool false)) 4)).alloc (.cells (Array.replicate n (Value.int .u32 0)) 40)).alloc (.cells #[.slice (some ⟨w.heap.size + 1, 0, none⟩) n n, .slice (some ⟨w.heap.size, 0, none⟩) n n] 61)).drew = w3 at *
    go_wp2
    go_loopg [5] n (fun g s5 wx => ∃ i : Nat, i + g = n ∧ s5 = .int .i64 i ∧ Hid (RLay wx (w.heap.size + 1 + 1) (w.heap.size + 1) (w.heap.size) n (half i)) ∧ Hid (Below w.heap.size w wx))
    case atStart => exact ⟨0, by omega, rfl, HR, HB⟩
    case round =>
      clear HR HB
      obtain ⟨i, hig, rfl, HR, HB⟩ := hrel
      cases gk with
      | zero =>
        obtain rfl : n = i := by omega
        have hlt : ¬ ((n : Int) < n) := by omega
        go_wp2
        go_ret2
        refine ⟨_, rfl, (w.heap.size + 1), (w.heap.size), ⟨HR.out.congr (fun j hj => ?_), h1, hn, Good.zero n⟩, HB.out, by omega, by omega, by omega⟩
        simp [half, none0, hj]
      | succ g =>
        have hlt : (i : Int) < n := by omega
        have c1 := HR.out.c1
        have cb := HR.out.cb (i := i) (by omega)
        have fb := HR.out.fb i
        have HR2 : Hid (RLay (wr.setCell ⟨w.heap.size, i, none⟩ (.bool true)) (w.heap.size + 1 + 1) (w.heap.size + 1) (w.heap.size) n (half (i + 1))) := by
          have := HR.out.setDrp i true
          rw [half_next] at this
          exact this
        have HB2 : Hid (Below w.heap.size w (wr.setCell ⟨w.heap.size, i, none⟩ (.bool true))) := HB.out.trans ((Buts.cell wr (w.heap.size) i (.bool true)).below (fun x hx => by simp only [List.mem_singleton] at hx; omega) HB.out.size)
        go_wp2
        go_roundg g
        case measure => omega
        case rel => exact ⟨i + 1, by omega, by go_num, HR2, HB2⟩
theorem rnew_no {w : World} (n : Int) (h : n < 1 ∨ 256 < n) :
    Calls Tryd.prog 5 #[.int .i64 n] w fun e w' => e = .returned (.tuple #[.pointer none, .int .i64 1]) ∧ w' = w := by
  by_cases h1 : n < 1
  · go_enter Tryd.func5, Tryd.ntmps5
    go_wp2
    go_ret2
    exact ⟨rfl, rfl⟩
  · have h2 : 256 < n := by omega
    go_enter Tryd.func5, Tryd.ntmps5
    go_wp2
    go_ret2
    exact ⟨rfl, rfl⟩
end Go.Proofs.YtkogmmldkpepaaaDoor
