/- A chain: all that are there. -/
import Derived.Test.YtdifgjioaikchaaDoorShift
namespace Go.Proofs.YtdifgjioaikchaaDoor
open Go Go.RowKit
set_option maxRecDepth 100000
set_option linter.unusedVariables false
theorem made_zero (n : Nat) : madeCells (Value.int .i64 0).cells n = (num (List.replicate n 0)).toArray := by
  apply Array.ext_getElem?
  intro i
  by_cases hi : i < n
  · simp [madeCells, Value.cells, num, hi, Nat.mod_one]
  · simp [madeCells, Value.cells, num, hi]
/-- a new row of noughts -/
theorem make_row (w : World) (l c : Nat) (hl : l ≤ c) (hc : c ≤ 1000000) :
    (Instr.makeSlice 46 (.int .i64 l) (.int .i64 c)).run Tryd.prog w = .ok (.slice (some ⟨w.heap.size, 0, none⟩) l c) (w.alloc (.cells (num (List.replicate c 0)).toArray 3)) := by
  obtain ⟨i, hi, he⟩ := Option.map_eq_some_iff.1 infoW
  have h1 : i.zero = some (.int .i64 0) := by simpa using congrArg Prod.fst he
  have h2 : i.size = 1 := by simpa using congrArg (fun x => x.2.1) he
  have h3 : i.bytes = 8 := by simpa using congrArg (fun x => x.2.2) he
  have := run_make w 46 3 i (.int .i64 0) Tryd.underlying46 hi h1 .i64 .i64 l c (by omega) (by omega) (by rw [h3]; omega) (by omega)
  rw [this, h2, Nat.mul_one, made_zero]
  simp
theorem own_row {w : World} {B g : Nat} {xs : List Int} (h : Row w g xs) (hb : B ≤ g) (hl : xs.length ≤ 1000000) : w.ownsRow B 3 1 (.slice (some ⟨g, 0, none⟩) xs.length xs.length) xs.length (xs.map (Value.int .i64)) := by
  refine ⟨by simp, Or.inr ⟨g, xs.length, _, rfl, hb, h, Nat.le_refl _, by simp only [maxLen]; omega, by simp [num], ?_⟩⟩
  simp [num, List.take_of_length_le]
/-- so many of a list, noughts behind them -/
def upto (xs : List Int) (i : Nat) : List Int := xs.take i ++ List.replicate (xs.length - i) 0
theorem upto_len {xs : List Int} {i : Nat} (hi : i ≤ xs.length) : (upto xs i).length = xs.length := by simp [upto]; omega
theorem upto_zero (xs : List Int) : upto xs 0 = List.replicate xs.length 0 := by simp [upto]
theorem upto_all (xs : List Int) : upto xs xs.length = xs := by simp [upto]
theorem upto_next {xs : List Int} {i : Nat} (hi : i < xs.length) : (upto xs i).set i (xs.getD i 0) = upto xs (i + 1) := by
  apply List.ext_getElem?
  intro j
  have hl := upto_len (Nat.le_of_lt hi)
  have hl' := upto_len (show i + 1 ≤ xs.length by omega)
  by_cases hj : j < xs.length
  · rw [List.getElem?_set]
    by_cases e : i = j
    · subst e
      rw [if_pos rfl, if_pos (by omega)]
      simp only [upto]
      rw [List.getElem?_append_left (by simp; omega), List.getElem?_take_of_lt (by omega)]
      simp [hi]
    · rw [if_neg e]
      simp only [upto]
      by_cases c : j < i
      · rw [List.getElem?_append_left (by simp; omega), List.getElem?_append_left (by simp; omega), List.getElem?_take_of_lt c, List.getElem?_take_of_lt (by omega)]
      · rw [List.getElem?_append_right (by simp; omega), List.getElem?_append_right (by simp; omega)]
        simp only [List.length_take]
        rw [List.getElem?_replicate, List.getElem?_replicate, if_pos (by omega), if_pos (by omega)]
  · rw [List.getElem?_eq_none (by rw [List.length_set]; omega), List.getElem?_eq_none (by omega)]
set_option maxHeartbeats 2000000 in
theorem all_any {B : Nat} {w : World} {p : Nat} {v : Value} {xs : List (Int × Int)} (h : Ch B w p v (dl 0 xs)) :
    Calls Tryd.prog 26 #[.pointer (some ⟨p, 1, none⟩)] w fun e w' => e = .returned (.slice (some ⟨w.heap.size, 0, none⟩) xs.length xs.length) ∧ Row w' w.heap.size (xs.map Prod.fst) ∧ Below w.heap.size w w' := by
  obtain ⟨sp, g, cap, hv, hsp, hgp, hgl, hcs⟩ := h.seq
  have hpl := at_lt h.head
  have hlk := h.lnk
  have hlen : xs.length ≤ 1000 := by have := h.len; rw [dl_len] at this; exact this
  rw [hv] at hlk
  clear h hv hgp
  obtain ⟨zs, hzs⟩ : ∃ zs, xs.map Prod.fst = zs := ⟨_, rfl⟩
  have hzl : xs.length = zs.length := by rw [← hzs]; simp
  have hcz : ∀ k, k < zs.length → w.cell? ⟨g, k * 2, none⟩ = some (.int .i64 (zs.getD k 0)) ∧ w.cell? ⟨g, k * 2 + 1, none⟩ = some (.int .i64 (bh xs k)) := fun k hk => by
    have := hcs k (by omega)
    rw [← hzs]
    have e : (xs.map Prod.fst).getD k 0 = (xs.getD k (0, 0)).1 := by
      rw [List.getD_eq_getElem?_getD, List.getD_eq_getElem?_getD, List.getElem?_map, List.getElem?_eq_getElem (by omega)]
      rfl
    rw [e]
    exact this
  rw [hzs, hzl]
  rw [hzl] at hlk hsp hlen
  have HCZ : Hid (∀ k, k < zs.length → w.cell? ⟨g, k * 2, none⟩ = some (.int .i64 (zs.getD k 0)) ∧ w.cell? ⟨g, k * 2 + 1, none⟩ = some (.int .i64 (bh xs k))) := hcz
  clear hcs hcz hzs
  have hmk := make_row w zs.length zs.length (Nat.le_refl _) (by omega)
  have HA : Hid (Row (w.alloc (.cells (num (List.replicate zs.length 0)).toArray 3)) w.heap.size (upto zs 0)) := by
    have : Row (w.alloc (.cells (num (List.replicate zs.length 0)).toArray 3)) w.heap.size (List.replicate zs.length 0) := alloc_at w _
    rw [← upto_zero] at this; exact this
  have HB : Hid (Below w.heap.size w (w.alloc (.cells (num (List.replicate zs.length 0)).toArray 3))) := alloc_below w _
  have hlk2 : (w.alloc (.cells (num (List.replicate zs.length 0)).toArray 3)).cell? ⟨p, 1, none⟩ = some (.slice sp zs.length cap) := (HB.out.cell (p := ⟨p, 1, none⟩) hpl).trans hlk
  obtain ⟨m, hm⟩ : ∃ m, zs.length = m := ⟨_, rfl⟩
  have HM : Hid (zs.length = m) := hm
  rw [hm] at hlk hlk2 hmk HA HB hsp hlen HCZ ⊢
  obtain ⟨t, ht⟩ : ∃ t, w.heap.size = t := ⟨_, rfl⟩
  have HT : Hid (w.heap.size = t) := ht
  rw [ht] at HA HB hpl hgl
  have hsz := alloc_size w (.cells (num (List.replicate m 0)).toArray 3)
  have HSZ : Hid ((w.alloc (.cells (num (List.replicate m 0)).toArray 3)).heap.size = t + 1) := by rw [hsz, ht]; exact rfl
  clear hm hsz hzl
  go_enter Tryd.func26, Tryd.ntmps26
  go_wp2
  clear ht hmk
  generalize w.alloc (.cells (num (List.replicate m 0)).toArray 3) = w0 at *
  go_loopg [17] m (fun q s17 wx => ∃ i : Nat, i + q = m ∧ s17 = .int .i64 i ∧ Hid (Row wx t (upto zs i)) ∧ Hid (Below t w wx))
  case atStart => exact ⟨0, by omega, rfl, HA, HB⟩
  case round =>
    clear HA HB HSZ hlk2
    obtain ⟨i, hiq, rfl, HA, HB⟩ := hrel
    cases gk with
    | zero =>
      have hlt : ¬ ((i : Int) < m) := by omega
      go_wp2
      go_ret
      rw [HT.out]
      refine ⟨rfl, ?_, HB.out⟩
      have := HA.out
      rwa [show i = zs.length by have := HM.out; omega, upto_all] at this
    | succ q =>
      have hlt : (i : Int) < m := by omega
      have him : i < m := by omega
      have hsp' := hsp (by omega)
      subst hsp'
      have d1 := (HB.out.cell (p := ⟨g, i * 2, none⟩) hgl).trans (HCZ.out i him).1
      have d2 := (HB.out.cell (p := ⟨g, i * 2 + 1, none⟩) hgl).trans (HCZ.out i him).2
      have HN : Hid ((upto zs i).set i (zs.getD i 0) = upto zs (i + 1)) := upto_next (by have := HM.out; omega)
      have HL : Hid ((upto zs i).length = m) := by have := upto_len (xs := zs) (i := i) (by have := HM.out; omega); rw [HM.out] at this; exact this
      have htl := HA.out.lt
      generalize zs.getD i 0 = y at *
      generalize bh xs i = b at *
      have HA2 : Hid (∀ o : Obj, Row (wr.alloc o) t (upto zs i) ∧ Below t w (wr.alloc o)) := fun o => ⟨HA.out.below (alloc_below wr o), HB.out.trans ((alloc_below wr o).mono (by omega))⟩
      have hne : t ≠ wr.heap.size := by omega
      have hne' := Ne.symm hne
      have kg : ∀ o : Obj, (wr.alloc o).cell? ⟨t, i, none⟩ = some (.int .i64 ((upto zs i).getD i 0)) := fun o => (HA2.out o).1.cell i (by have := HL.out; omega)
      have kf : ∀ o : Obj, (wr.alloc o).frozen? ⟨t, i, none⟩ = false := fun o => (HA2.out o).1.free i
      go_wp2
      have A3 : Hid (Row ((wr.setCell ⟨t, i, none⟩ (.int .i64 y)).alloc (Obj.cells #[.int .i64 y, .int .i64 b] 74)) t (upto zs (i + 1))) := by
        have := HA.out.set i y
        rw [HN.out] at this
        exact this.below (alloc_below _ _)
      have B3 : Hid (Below t w ((wr.setCell ⟨t, i, none⟩ (.int .i64 y)).alloc (Obj.cells #[.int .i64 y, .int .i64 b] 74))) :=
        (HB.out.trans ((Buts.cell wr t i (.int .i64 y)).below (by simp) (Nat.le_of_lt htl))).trans ((alloc_below _ _).mono (by have := (Buts.cell wr t i (.int .i64 y)).size; omega))
      go_roundg q
      case measure => omega
      case rel => exact ⟨i + 1, by omega, by go_num, A3, B3⟩
end Go.Proofs.YtdifgjioaikchaaDoor
