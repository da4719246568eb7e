/- The document's own queue: somebody who goes. -/
import Derived.Test.YtjhpiecbolmleaaGreatDoorKDo
namespace Go.Proofs.YtjhpiecbolmleaaGreatDoor
open Go Go.RowKit Go.Shelf
set_option maxRecDepth 100000
set_option linter.unusedVariables false
set_option linter.unusedSimpArgs false
/-- all but one, as far as a place -/
def flt (z : Int) (xs : List Int) : List Int := xs.filter (fun y => decide (y ≠ z))
theorem flt_snoc (z : Int) (xs : List Int) {i : Nat} (h : i < xs.length) : flt z (xs.take (i + 1)) = if xs.getD i 0 = z then flt z (xs.take i) else flt z (xs.take i) ++ [xs.getD i 0] := by
  rw [take_snoc xs h]
  unfold flt
  rw [List.filter_append]
  generalize xs.getD i 0 = y
  by_cases e : y = z
  · rw [if_pos e]; simp [List.filter, e]
  · rw [if_neg e]; simp [List.filter, e]
theorem flt_len (z : Int) (xs : List Int) (i : Nat) : (flt z (xs.take i)).length ≤ i := by
  unfold flt
  have := List.length_filter_le (fun y => decide (y ≠ z)) (xs.take i)
  have h2 : (xs.take i).length ≤ i := by simp; omega
  omega
theorem flt_erase {xs : List Int} (h : xs.Nodup) (z : Int) : flt z xs = xs.erase z := by
  rw [h.erase_eq_filter]
  unfold flt
  congr 1
  funext y
  by_cases e : y = z <;> simp [e]
set_option maxHeartbeats 8000000 in
theorem kremove_any {s : Nat} {w : World} {q : Nat} {X : Nat → List Int} (h : KS s w q X) (hX : Good X) (hl : ∀ r, r < 32 → (X r).length ≤ 256) (z : Int) :
    Calls Tryz.prog 24 #[.pointer (some ⟨q, 0, none⟩), .int .i64 z] w fun e w' => e = .returned (.int .i64 (rmE X z)) ∧ KS s w' q (rmX X z) ∧ Buts [q] w w' := by
  have hR := krank_any h hl z
  have HS : Hid (KS s w q X) := h
  cases hrk : rk X z with
  | none =>
    have e1 : rmE X z = 1 := by unfold rmE rkb; rw [hrk]; rfl
    have e2 : rmX X z = X := by unfold rmX; rw [hrk]
    have e3 : rkb X z = false := by unfold rkb; rw [hrk]; rfl
    rw [e1, e2]
    rw [e3] at hR
    generalize rkv X z = rv at *
    clear h e1 e2 e3 hrk
    go_enter Tryz.func24, Tryz.ntmps24
    go_wp2_with (first | (go_at_call 12; refine hR.mono ?_; rintro e wx ⟨rfl, rfl⟩))
    go_ret
    exact ⟨rfl, HS.out, Buts.refl _ _⟩
  | some k =>
    obtain ⟨hk, hzk⟩ := rk_at hrk
    have hk32 : (k : Int) < 32 := by omega
    have e1 : rmE X z = 0 := by unfold rmE rkb; rw [hrk]; rfl
    have e2 : rmX X z = up X k ((X k).erase z) := by unfold rmX; rw [hrk]
    have e3 : rkb X z = true := by unfold rkb; rw [hrk]; rfl
    have e4 : rkv X z = (k : Int) := by unfold rkv; rw [hrk]; rfl
    rw [e1]
    rw [e3, e4] at hR
    obtain ⟨us, hU⟩ := h
    have hlr := hl k hk
    have hlt := at_lt hU.head
    have hsl := hU.lo
    obtain ⟨sp, cap, hv, hsp⟩ := (hU.row k hk).form
    have hnd := hX.nd k hk
    obtain ⟨xs, hxs⟩ : ∃ xs, X k = xs := ⟨_, rfl⟩
    have HE : Hid (rmX X z = up X k (flt z xs)) := by
      show _ = _
      rw [e2, hxs, flt_erase (by rw [← hxs]; exact hnd)]
    obtain ⟨m, hm⟩ : ∃ m, xs.length = m := ⟨_, rfl⟩
    have HM : Hid (xs.length = m) := hm
    rw [hxs, hm] at hv hsp hlr
    have hm0 : 0 < m := by rw [← hm, ← hxs]; exact List.length_pos_of_mem hzk
    obtain ⟨g, hg, hcc⟩ := hsp hm0
    subst hg
    have hgl : g < w.heap.size := cell_lt (hcc 0 hm0)
    have HU : Hid (KQ s w q us X) := hU
    have HV : Hid (us k = .slice (some ⟨g, 0, none⟩) m cap) := hv
    have HCC : Hid (∀ i, i < m → w.cell? ⟨g, i, none⟩ = some (.int .i64 (xs.getD i 0))) := hcc
    obtain ⟨i0, hi, hz0, hz1, hz2⟩ := info_parts infoV
    clear hU hl e1 e2 e3 e4 hrk hzk hnd hxs hm hv hsp hcc hX
    go_enter Tryz.func24, Tryz.ntmps24
    go_wp2_with (first | (go_at_call 12; refine hR.mono ?_; rintro e wx ⟨rfl, rfl⟩))
    go_loopg [7, 8] m (fun gk s7 s8 wx => ∃ i : Nat, i + gk = m ∧ s8 = .int .i64 (i : Int) ∧ Hid (wx.ownsRow w.heap.size 3 1 s7 (flt z (xs.take i)).length ((flt z (xs.take i)).map (Value.int .i64)) ∧ (s7 = .slice none 0 0 ↔ flt z (xs.take i) = [])) ∧ Below w.heap.size w wx)
    case atStart => exact ⟨0, by omega, rfl, ⟨World.ownsRow_nil _ _ _ _, by simp [flt]⟩, Below.refl _ _⟩
    case round =>
      obtain ⟨i, hig, rfl, HO, hB⟩ := hrel
      have hU2 := HU.out.below hB
      have c0 := hU2.cell hk
      have f0 := hU2.free k
      rw [HV.out] at c0
      cases gk with
      | zero =>
        obtain rfl : i = m := by omega
        have hlt2 : ¬ ((i : Int) < i) := by omega
        obtain ⟨ho, hn⟩ := HO.out
        rw [List.take_of_length_le (by rw [HM.out]; exact Nat.le_refl _)] at ho hn
        obtain ⟨sp7, c7, rfl, _, _, _⟩ := own_form ho
        have HK : Hid (KS s (wr.setCell ⟨q, k, none⟩ (.slice sp7 (flt z xs).length c7)) q (up X k (flt z xs)) ∧ Buts [q] w (wr.setCell ⟨q, k, none⟩ (.slice sp7 (flt z xs).length c7))) := by
          refine ⟨hU2.set hk ?_, but_set hB _ _⟩
          by_cases he : flt z xs = []
          · exact Or.inl ⟨hn.2 he, he⟩
          · exact KRow.own ho rfl (List.length_pos_iff.2 he) (by omega)
        clear ho hn HO hU2
        go_wp2
        go_ret
        rw [HE.out]
        exact ⟨rfl, HK.out.1, HK.out.2⟩
      | succ gk =>
        have hlt2 : (i : Int) < m := by omega
        have him : i < m := by omega
        have d0 := (hB.cell (p := ⟨g, i, none⟩) hgl).trans (HCC.out i him)
        have hwi : IntKind.i64.wrap ((i : Int) + 1) = (i : Int) + 1 := by rw [IntKind.wrap_i64]; omega
        have hfl := flt_len z xs i
        have hsn := flt_snoc z xs (i := i) (by rw [HM.out]; exact him)
        obtain ⟨y, hy⟩ : ∃ y, xs.getD i 0 = y := ⟨_, rfl⟩
        rw [hy] at d0 hsn
        clear hy
        by_cases hyz : y = z
        · rw [if_pos hyz] at hsn
          have HSN : Hid (flt z (xs.take (i + 1)) = flt z (xs.take i)) := hsn
          clear hsn
          subst hyz
          go_wp2
          go_roundg gk
          case measure => omega
          case rel => exact ⟨i + 1, by omega, by go_num, by rw [HSN.out]; exact HO, hB⟩
        · rw [if_neg hyz] at hsn
          have HSN : Hid (flt z (xs.take (i + 1)) = flt z (xs.take i) ++ [y]) := hsn
          have hyz2 : (y == z) = false := by simpa using hyz
          clear hsn
          go_wp2_with (first
            | (at_builtin; refine wpList_append_own _ rfl _ _ 45 rfl w.heap.size 3 i0 (.int .i64 0) 1 8 Tryz.underlying45 hi hz0 hz1 hz2 rfl (by decide) _ _ _ rfl (HO.out.1.alloc _) ⟨wr.heap.size, 0, none⟩ 1 1 [.int .i64 y] rfl rfl (cell_one_new _ _ _) (by simp [Value.oneCell']) (by simp only [maxLen]; omega) (by omega) (by have := hB.size; simp; omega) ?_; intro v' w1 hown' hgrow hnil; have HO1 : Hid (w1.ownsRow w.heap.size 3 1 v' (flt z (xs.take (i + 1))).length ((flt z (xs.take (i + 1))).map (Value.int .i64)) ∧ (v' = .slice none 0 0 ↔ flt z (xs.take (i + 1)) = [])) := (by rw [HSN.out]; refine ⟨(by simpa using hown'), ⟨fun e => absurd (hnil.1 e).2 (by decide), fun e => absurd e (by simp)⟩⟩); have HB1 : Hid (Below w.heap.size w w1) := (hB.trans ((alloc_below wr _).mono hB.size)).trans ((Below.refl _ _).grown hgrow (by have := hB.size; simp; omega) (fun j ej => (HO.out.1.lt j ej).1)); clear hown' hgrow hnil))
          go_roundg gk
          case measure => omega
          case rel => exact ⟨i + 1, by omega, by go_num, HO1, HB1.out⟩
end Go.Proofs.YtjhpiecbolmleaaGreatDoor
