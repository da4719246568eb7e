/- The document's own queue: a list for each rank; what its functions tell. -/
import Derived.Test.YtjhpiecbolmleaaGreatDoorRSeen
import Derived.Deep.RegionLaw
namespace Go.Proofs.YtjhpiecbolmleaaGreatDoor
open Go Go.RowKit Go.Shelf
set_option maxRecDepth 100000
set_option linter.unusedVariables false
set_option linter.unusedSimpArgs false
/-- a list of a rank, as it lies in memory; it is written no more -/
def KRow (s : Nat) (w : World) (v : Value) (xs : List Int) : Prop :=
  (v = .slice none 0 0 ∧ xs = []) ∨ (∃ g cap cs, v = .slice (some ⟨g, 0, none⟩) xs.length cap ∧ (0 < xs.length ∧ xs.length ≤ cap) ∧ s ≤ g ∧ w.heap[g]? = some (.cells cs 3 (0, 0)) ∧ ∀ i, i < xs.length → cs[i]? = some (.int .i64 (xs.getD i 0)))
theorem KRow.own {s B : Nat} {w : World} {v : Value} {n : Nat} {xs : List Int} (h : w.ownsRow B 3 1 v n (xs.map (Value.int .i64))) (hn : xs.length = n) (h0 : 0 < n) (hs : s ≤ B) : KRow s w v xs := by
  subst hn
  rcases h.2 with ⟨_, h1⟩ | ⟨g, cap, cur, rfl, hg, hh, hc, hm, hx⟩
  · omega
  · refine Or.inr ⟨g, cap, cur, rfl, ⟨h0, hc⟩, by omega, hh, fun i hi => ?_⟩
    have := h.cellAt i (by omega)
    rw [cell_of hh] at this
    rw [this]
    simp [hi]
theorem KRow.keep {s : Nat} {w w' : World} {v : Value} {xs : List Int} (h : KRow s w v xs) (hk : ∀ g cs, s ≤ g → w.heap[g]? = some (.cells cs 3 (0, 0)) → w'.heap[g]? = w.heap[g]?) : KRow s w' v xs := by
  rcases h with h | ⟨g, cap, cs, h1, h2, h3, h4, h5⟩
  · exact Or.inl h
  · exact Or.inr ⟨g, cap, cs, h1, h2, h3, (hk g cs h3 h4).trans h4, h5⟩
theorem KRow.form {s : Nat} {w : World} {v : Value} {xs : List Int} (h : KRow s w v xs) : ∃ sp cap, v = .slice sp xs.length cap ∧ (0 < xs.length → ∃ g, sp = some ⟨g, 0, none⟩ ∧ ∀ i, i < xs.length → w.cell? ⟨g, i, none⟩ = some (.int .i64 (xs.getD i 0))) := by
  rcases h with ⟨rfl, rfl⟩ | ⟨g, cap, cs, rfl, h2, h3, h4, h5⟩
  · exact ⟨none, 0, rfl, fun h => by simp at h⟩
  · exact ⟨_, cap, rfl, fun _ => ⟨g, rfl, fun i hi => by rw [cell_of h4]; exact h5 i hi⟩⟩
/-- the cells of the document's queue -/
def kc (us : Nat → Value) : List Value := (List.range 32).map us
theorem kc_at (us : Nat → Value) {r : Nat} (h : r < 32) : (kc us)[r]? = some (us r) := by
  unfold kc
  rw [List.getElem?_map, List.getElem?_range h]
  rfl
theorem kc_set (us : Nat → Value) {k : Nat} (h : k < 32) (v : Value) : (kc us).set k v = kc (fun i => if i = k then v else us i) := by
  apply List.ext_getElem?
  intro i
  rw [List.getElem?_set]
  by_cases e : k = i
  · subst e
    rw [if_pos rfl, if_pos (by simp [kc]; exact h), kc_at _ h]
    simp
  · rw [if_neg e]
    by_cases hi : i < 32
    · rw [kc_at _ hi, kc_at _ hi, if_neg (Ne.symm e)]
    · rw [List.getElem?_eq_none (by simp [kc]; omega), List.getElem?_eq_none (by simp [kc]; omega)]
structure KQ (s : Nat) (w : World) (q : Nat) (us : Nat → Value) (X : Nat → List Int) : Prop where
  head : w.heap[q]? = some (.cells (kc us).toArray 62 (0, 0))
  row : ∀ r, r < 32 → KRow s w (us r) (X r)
  lo : s ≤ q
def KS (s : Nat) (w : World) (q : Nat) (X : Nat → List Int) : Prop := ∃ us, KQ s w q us X
theorem KQ.cell {s : Nat} {w : World} {q : Nat} {us : Nat → Value} {X : Nat → List Int} (h : KQ s w q us X) {r : Nat} (hr : r < 32) : w.cell? ⟨q, r, none⟩ = some (us r) := by
  rw [cell_of h.head]; simpa using kc_at us hr
theorem KQ.free {s : Nat} {w : World} {q : Nat} {us : Nat → Value} {X : Nat → List Int} (h : KQ s w q us X) (i : Nat) : w.frozen? ⟨q, i, none⟩ = false := by simp [World.frozen?, h.head]
theorem KQ.keep {s : Nat} {w w' : World} {q : Nat} {us : Nat → Value} {X : Nat → List Int} (h : KQ s w q us X) (hq : w'.heap[q]? = w.heap[q]?) (hk : ∀ g cs, s ≤ g → w.heap[g]? = some (.cells cs 3 (0, 0)) → w'.heap[g]? = w.heap[g]?) : KQ s w' q us X :=
  ⟨hq.trans h.head, fun r hr => (h.row r hr).keep hk, h.lo⟩
theorem KQ.below {s : Nat} {w w' : World} {q : Nat} {us : Nat → Value} {X : Nat → List Int} (h : KQ s w q us X) (hb : Below w.heap.size w w') : KQ s w' q us X :=
  h.keep (hb.block q (at_lt h.head)) fun g cs _ hg => hb.block g (at_lt hg)
theorem KS.below {s : Nat} {w w' : World} {q : Nat} {X : Nat → List Int} (h : KS s w q X) (hb : Below w.heap.size w w') : KS s w' q X := by
  obtain ⟨us, hu⟩ := h
  exact ⟨us, hu.below hb⟩
/-- another list in a rank's place -/
theorem KQ.set {s : Nat} {w : World} {q : Nat} {us : Nat → Value} {X : Nat → List Int} (h : KQ s w q us X) {k : Nat} (hk : k < 32) {v : Value} {xs : List Int} (hv : KRow s w v xs) : KS s (w.setCell ⟨q, k, none⟩ v) q (up X k xs) := by
  refine ⟨fun i => if i = k then v else us i, ?_, fun r hr => ?_, h.lo⟩
  · have hlt := at_lt h.head
    have h2 := (Array.getElem?_eq_some_iff.1 h.head).2
    unfold World.setCell
    rw [Array.getElem?_eq_getElem (by simpa using hlt), Array.getElem_modify]
    simp [h2, kc_set us hk]
  · have kp : ∀ g cs, s ≤ g → w.heap[g]? = some (.cells cs 3 (0, 0)) → (w.setCell ⟨q, k, none⟩ v).heap[g]? = w.heap[g]? := fun g cs _ hg => Below.heap_setCell _ _ _ _ (by
      rintro rfl
      rw [h.head] at hg
      simp at hg)
    by_cases e : r = k
    · subst e
      simp only [if_pos]
      rw [up_at]
      exact hv.keep kp
    · simp only [if_neg e]
      rw [up_ne X xs e]
      exact (h.row r hr).keep kp
theorem kz : (kc (fun _ => .slice none 0 0)).toArray = #[.slice none 0 0, .slice none 0 0, .slice none 0 0, .slice none 0 0, .slice none 0 0, .slice none 0 0, .slice none 0 0, .slice none 0 0, .slice none 0 0, .slice none 0 0, .slice none 0 0, .slice none 0 0, .slice none 0 0, .slice none 0 0, .slice none 0 0, .slice none 0 0, .slice none 0 0, .slice none 0 0, .slice none 0 0, .slice none 0 0, .slice none 0 0, .slice none 0 0, .slice none 0 0, .slice none 0 0, .slice none 0 0, .slice none 0 0, .slice none 0 0, .slice none 0 0, .slice none 0 0, .slice none 0 0, .slice none 0 0, .slice none 0 0] := by rfl
theorem knew_any (s : Nat) (w : World) (hs : s ≤ w.heap.size) : Calls Tryz.prog 6 #[] w fun e w' => e = .returned (.pointer (some ⟨w.heap.size, 0, none⟩)) ∧ KS s w' w.heap.size (fun _ => []) ∧ Below w.heap.size w w' := by
  have hz := kz.symm
  go_enter Tryz.func6, Tryz.ntmps6
  go_wp2
  go_ret
  exact ⟨rfl, ⟨_, alloc_at w _, fun r _ => Or.inl ⟨rfl, rfl⟩, hs⟩, alloc_below w _⟩
/-- the first rank, rising, that has somebody -/
theorem rk_first {X : Nat → List Int} {z : Int} {r : Nat} (hr : r < 32) (hz : z ∈ X r) (hn : ∀ s, s < r → z ∉ X s) : rk X z = some r := by
  unfold rk
  rw [List.find?_eq_some_iff_append]
  refine ⟨by simpa using hz, List.range r, List.range' (r + 1) (31 - r), ?_, fun a ha => ?_⟩
  · rw [List.range_eq_range', List.range_eq_range']
    have h1 : List.range' 0 32 = List.range' 0 r ++ List.range' r (32 - r) := by
      have := List.range'_append_1 (s := 0) (m := r) (n := 32 - r)
      rw [Nat.zero_add, show r + (32 - r) = 32 by omega] at this
      exact this.symm
    rw [h1, show 32 - r = (31 - r) + 1 by omega, List.range'_succ]
  · simpa using hn a (by simpa using ha)
set_option maxHeartbeats 4000000 in
theorem krank_any {s : Nat} {w : World} {q : Nat} {X : Nat → List Int} (h : KS s w q X) (hl : ∀ r, r < 32 → (X r).length ≤ 256) (z : Int) :
    Calls Tryz.prog 12 #[.pointer (some ⟨q, 0, none⟩), .int .i64 z] w fun e w' => e = .returned (.tuple #[.int .i64 (rkv X z), .bool (rkb X z)]) ∧ w = w' := by
  obtain ⟨us, hU⟩ := h
  go_enter Tryz.func12, Tryz.ntmps12
  go_wp2
  go_loopg [6] 32 (fun g s6 wx => ∃ r : Nat, r + g = 32 ∧ s6 = .int .i64 (r : Int) ∧ Hid (∀ t, t < r → z ∉ X t) ∧ w = wx)
  case atStart => exact ⟨0, by omega, rfl, fun t ht => by omega, rfl⟩
  case round =>
    obtain ⟨r, hrg, rfl, HN, rfl⟩ := hrel
    cases gk with
    | zero =>
      have h31 : ¬ ((r : Int) ≤ 31) := by omega
      have e : rk X z = none := rk_none.2 fun t ht => HN.out t (by omega)
      have E : Hid (rkv X z = 0 ∧ rkb X z = false) := by unfold rkv rkb; rw [e]; exact ⟨rfl, rfl⟩
      clear hU hrg
      go_wp2
      go_ret2
      exact ⟨by rw [E.out.1, E.out.2]; rfl, rfl⟩
    | succ g =>
      have hr32 : r < 32 := by omega
      have h31 : (r : Int) ≤ 31 := by omega
      have h32 : (r : Int) < 32 := by omega
      obtain ⟨sp, cap, hv, hsp⟩ := (hU.row r hr32).form
      have c0 := hU.cell hr32
      rw [hv] at c0
      have hlr := hl r hr32
      obtain ⟨xs, hxs⟩ : ∃ xs, X r = xs := ⟨_, rfl⟩
      obtain ⟨m, hm⟩ : ∃ m, xs.length = m := ⟨_, rfl⟩
      have HX : Hid (X r = xs) := hxs
      have HM : Hid (xs.length = m) := hm
      rw [hxs, hm] at c0 hsp hlr
      have HSP : Hid (0 < m → ∃ g, sp = some ⟨g, 0, none⟩ ∧ ∀ i, i < m → w.cell? ⟨g, i, none⟩ = some (.int .i64 (xs.getD i 0))) := hsp
      have hwr : IntKind.i64.wrap ((r : Int) + 1) = (r : Int) + 1 := by rw [IntKind.wrap_i64]; omega
      clear hv hsp hxs hm
      go_wp2
      go_loopg [7] m (fun g2 s7 wx => ∃ i : Nat, i + g2 = m ∧ s7 = .int .i64 (i : Int) ∧ Hid (∀ j, j < i → xs.getD j 0 ≠ z) ∧ w = wx)
      case atStart => exact ⟨0, by omega, rfl, fun t ht => by omega, rfl⟩
      case round =>
        obtain ⟨i, hig, rfl, HI, rfl⟩ := hrel
        cases gk with
        | zero =>
          obtain rfl : i = m := by omega
          have hlt : ¬ ((i : Int) < i) := by omega
          go_wp2
          go_roundg g
          case measure => omega
          case rel =>
            refine ⟨r + 1, by omega, by go_num, fun t ht => ?_, rfl⟩
            rcases Nat.lt_or_ge t r with h | h
            · exact HN.out t h
            · obtain rfl : t = r := by omega
              rw [HX.out]
              exact not_mem_of fun j hj => HI.out j (by rw [HM.out] at hj; exact hj)
        | succ g2 =>
          have hlt : (i : Int) < m := by omega
          have him : i < m := by omega
          have hwi : IntKind.i64.wrap ((i : Int) + 1) = (i : Int) + 1 := by rw [IntKind.wrap_i64]; omega
          obtain ⟨gg, hgg, hcc⟩ := HSP.out (by omega)
          subst hgg
          have d0 := hcc i him
          clear hcc
          by_cases hz : xs.getD i 0 = z
          · have hzm : z ∈ X r := by rw [HX.out, ← hz]; exact getD_mem (by rw [HM.out]; exact him)
            have e := rk_first hr32 hzm HN.out
            have E : Hid (rkv X z = (r : Int) ∧ rkb X z = true) := by unfold rkv rkb; rw [e]; exact ⟨rfl, rfl⟩
            rw [hz] at d0
            clear hzm e hz hU
            go_wp2
            go_ret2
            exact ⟨by rw [E.out.1, E.out.2]; rfl, rfl⟩
          · have hz2 : (xs.getD i 0 == z) = false := by simpa using hz
            have HZ : Hid (xs.getD i 0 ≠ z) := hz
            clear hz
            obtain ⟨y, hy⟩ : ∃ y, xs.getD i 0 = y := ⟨_, rfl⟩
            rw [hy] at d0 hz2
            clear hy
            go_wp2
            go_roundg g2
            case measure => omega
            case rel => exact ⟨i + 1, by omega, by go_num, fun j hj => (by
              rcases Nat.lt_or_ge j i with h | h
              · exact HI.out j h
              · obtain rfl : j = i := by omega
                exact HZ.out), rfl⟩
end Go.Proofs.YtjhpiecbolmleaaGreatDoor
