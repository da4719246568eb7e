/- LaddersLast: whatever was set and cleared, a rank has somebody just if it was set last. -/
import Derived.Test.YtjcaiejbibhpiabArgs
namespace Go.Proofs.Ytjcaiejbibhpiab
open Go Go.RowKit
set_option maxRecDepth 100000
set_option linter.unusedVariables false
theorem has_is' {w : World} {sp : Option Addr} {l n : Nat} (hl : l < 4294967296) (hs : Src w sp (told l)) (hn : n = (told l).length) (c : Nat) (r : Int) (b : Bool) (hb : decide (r ∈ told l) = b) :
    Calls Try.prog 7 #[.slice sp n c, .int .i64 r] w fun e w' => e = .returned (.bool b) ∧ w' = w := by
  subst hn hb
  exact has_any hs (by have := told_le l; omega) c r
theorem last_many {w : World} {sp : Option Addr} {n : Nat} (hn : 100 < n) (cap : Nat) (hm : n ≤ maxLen) :
    Calls Try.prog 4 #[.slice sp n cap] w fun e w' => e = .returned (.bool true) ∧ Below w.heap.size w w' := by
  have hn' : (100 : Int) < n := by omega
  have M1 := True.intro
  go_enter Try.func4, Try.ntmps4
  go_wp2_with (first
    | (go_at_call 8; clear M1; refine (alive_any _).mono ?_; rintro e w1 ⟨rfl, hB⟩)
    | (go_at_call 8; refine (alive_any _).mono ?_; rintro e w2 ⟨rfl, hb⟩; replace hB := hB.trans (hb.mono hB.size)))
  go_ret
  exact ⟨rfl, hB⟩
/-- which ranks are there, as an array -/
def arr (l : Nat) : Array Value := ((List.range 32).map fun k => Value.bool (l.testBit k)).toArray
def Arr (w : World) (B l : Nat) : Prop := w.heap[B]? = some (.cells (arr l) 31 (0, 0))
theorem arr_at (l k : Nat) (hk : k < 32) : (arr l)[k]? = some (.bool (l.testBit k)) := by simp [arr, hk]
theorem Arr.lt {w : World} {B l : Nat} (h : Arr w B l) : B < w.heap.size := by
  rcases Nat.lt_or_ge B w.heap.size with k | k
  · exact k
  · unfold Arr at h; rw [Array.getElem?_eq_none k] at h; cases h
theorem Arr.cell {w : World} {B l : Nat} (h : Arr w B l) (k : Nat) (hk : k < 32) : w.cell? ⟨B, k, none⟩ = some (.bool (l.testBit k)) := by
  simp only [World.cell?, show w.heap[B]? = _ from h]
  simpa using arr_at l k hk
theorem Arr.free {w : World} {B l : Nat} (h : Arr w B l) (k : Nat) : w.frozen? ⟨B, k, none⟩ = false := by simp [World.frozen?, show w.heap[B]? = _ from h]
theorem Arr.set {w : World} {B l l' : Nat} (h : Arr w B l) (k : Nat) (v : Bool) (hl : ∀ j, j < 32 → l'.testBit j = if j = k then v else l.testBit j) : Arr (w.setCell ⟨B, k, none⟩ (.bool v)) B l' := by
  have hlt := h.lt
  have hh : w.heap[B] = .cells (arr l) 31 (0, 0) := (Array.getElem?_eq_some_iff.1 h).2
  unfold Arr World.setCell
  rw [Array.getElem?_eq_getElem (by simpa using hlt), Array.getElem_modify]
  simp only [hh, if_true]
  congr 1
  show Obj.cells _ _ _ = Obj.cells _ _ _
  congr 1
  apply Array.ext_getElem?
  intro j
  by_cases hj : j < 32
  · rw [arr_at l' j hj, hl j hj]
    by_cases e : j = k
    · subst e
      simp [arr, hj]
    · rw [if_neg e]
      simp [arr, hj, Ne.symm e]
  · simp [arr, hj]
set_option maxHeartbeats 4000000 in
theorem last_few {w : World} {sp : Option Addr} {zs : List Int} {n : Nat} (hs : BSrc w.heap.size w sp zs) (HN : Hid (zs.length = n)) (hn : n ≤ 100) (cap : Nat) :
    Calls Try.prog 4 #[.slice sp n cap] w fun e w' => e = .returned (.bool true) ∧ Below w.heap.size w w' := by
  have hn' : ¬ ((100 : Int) < n) := by omega
  have HS : Hid (BSrc w.heap.size w sp zs) := hs
  clear hs
  go_enter Try.func4, Try.ntmps4
  go_wp2_with (go_at_call 8; refine (alive_any _).mono ?_; rintro e w1 ⟨rfl, hB⟩)
  have hB0 := alloc_below w1 (.cells (arr 0) 31)
  have A0 : Arr (w1.alloc (.cells (arr 0) 31)) w1.heap.size 0 := alloc_at _ _
  obtain ⟨B, hBB⟩ : ∃ B, w1.heap.size = B := ⟨_, rfl⟩
  have EB : Hid (w1.heap.size = B) := hBB
  rw [hBB] at A0 hB0 ⊢
  clear hBB
  go_loopg [3, 5] n (fun g s3 s5 wx => ∃ i l : Nat, i + g = n ∧ s3 = .int .u32 (l : Int) ∧ s5 = .int .i64 i ∧ l < 4294967296 ∧ Arr wx B l ∧ Below B w1 wx)
  case atStart => exact ⟨0, 0, by omega, rfl, rfl, by decide, A0, hB0⟩
  case round =>
    obtain ⟨i, l, hig, rfl, rfl, hl, hA, hb⟩ := hrel
    cases gk with
    | succ g =>
      have hlt : (i : Int) < n := by omega
      obtain ⟨bb, off, rfl, hbl, hc⟩ := HS.out.spot (by have := HN.out; omega)
      have hBw := hB.size
      have k1 := (hb.cell (p := ⟨bb, off + i, none⟩) (by have := EB.out; show bb < B; omega)).trans ((hB.cell (p := ⟨bb, off + i, none⟩) hbl).trans (hc i (by have := HN.out; omega)))
      have z1 := HS.out.at i
      clear hc
      generalize zs.getD i 0 = z at k1 z1
      have c1 := hA.cell (z % 32).toNat (by omega)
      have f1 := hA.free (z % 32).toNat
      by_cases hz : z < 128
      · have hz' : decide (z < 128) = true := decide_eq_true hz
        have hA' := hA.set (l' := setL l (z % 32)) (z % 32).toNat true (fun j hj => by
          rw [setL_bit]
          by_cases e : j = (z % 32).toNat
          · rw [if_pos e, show decide ((j : Int) = z % 32 ∧ j < 32) = true from decide_eq_true ⟨by omega, hj⟩]; simp
          · rw [if_neg e, show decide ((j : Int) = z % 32 ∧ j < 32) = false from decide_eq_false (by omega)]; simp)
        have HA : Hid (Arr (wr.setCell ⟨B, (z % 32).toNat, none⟩ (.bool true)) B (setL l (z % 32))) := hA'
        have HB' : Hid (Below B w1 (wr.setCell ⟨B, (z % 32).toNat, none⟩ (.bool true))) := hb.setCell (p := ⟨B, (z % 32).toNat, none⟩) (Nat.le_refl _) _
        clear hA' hA hb
        go_wp2_with (go_at_call 9; refine (set_any l hl _ _).mono ?_; rintro e wx ⟨rfl, hwx⟩; obtain rfl := hwx.symm)
        go_roundg g
        case measure => omega
        case rel => exact ⟨i + 1, setL l (z % 32), by omega, rfl, by go_num, setL_lt hl _, HA.out, HB'.out⟩
      · have hz' : decide (z < 128) = false := decide_eq_false hz
        have hA' := hA.set (l' := clrL l (z % 32)) (z % 32).toNat false (fun j hj => by
          rw [clrL_bit hl]
          by_cases e : j = (z % 32).toNat
          · rw [if_pos e, show decide ((j : Int) = z % 32) = true from decide_eq_true (by omega)]; simp
          · rw [if_neg e, show decide ((j : Int) = z % 32) = false from decide_eq_false (by omega)]; simp)
        have HA : Hid (Arr (wr.setCell ⟨B, (z % 32).toNat, none⟩ (.bool false)) B (clrL l (z % 32))) := hA'
        have HB' : Hid (Below B w1 (wr.setCell ⟨B, (z % 32).toNat, none⟩ (.bool false))) := hb.setCell (p := ⟨B, (z % 32).toNat, none⟩) (Nat.le_refl _) _
        clear hA' hA hb
        go_wp2_with (go_at_call 10; refine (clear_any l hl _ _).mono ?_; rintro e wx ⟨rfl, hwx⟩; obtain rfl := hwx.symm)
        go_roundg g
        case measure => omega
        case rel => exact ⟨i + 1, clrL l (z % 32), by omega, rfl, by go_num, clrL_lt hl _, HA.out, HB'.out⟩
    | zero =>
      have hlt : ¬ ((i : Int) < n) := by omega
      have HBw : Hid (Below w.heap.size w wr) := hB.trans (hb.mono (by have := hB.size; have := EB.out; omega))
      go_wp2_with (go_at_call 6; refine (list_src l hl _).mono ?_; rintro e w2 ⟨sp2, cap2, rfl, hs2, hb2⟩)
      have HB2 : Hid (Below w.heap.size w w2) := HBw.out.trans (hb2.mono HBw.out.size)
      have A2 : Hid (Arr w2 B l) := (hb2.block B hA.lt).trans hA
      have m2 := told_le l
      obtain ⟨m, hm⟩ : ∃ m, (told l).length = m := ⟨_, rfl⟩
      have HM : Hid ((told l).length = m) := hm
      have HS2 : Hid (Src w2 sp2 (told l)) := hs2
      have hmm : Hid (m = (downs l 32).length) := by show m = _; rw [← hm, told_len]; rfl
      rw [hm] at m2 ⊢
      clear hm hb2 hs2 hA hb
      go_loopg [8, 9] 32 (fun g s8 s9 wx => ∃ k c : Nat, k + g = 32 ∧ s8 = .int .i64 c ∧ s9 = .int .i64 k ∧ c ≤ k ∧ Below w2.heap.size w2 wx ∧ Hid (c = (downs l k).length))
      case atStart => exact ⟨0, 0, by omega, rfl, rfl, by omega, Below.refl _ _, rfl⟩
      case round =>
        obtain ⟨k, c, hkg, rfl, rfl, hck, hbx, hc⟩ := hrel
        cases gk with
        | succ g =>
          have hlt2 : (k : Int) < 32 := by omega
          have A3 : Arr wr B l := (hbx.block B A2.out.lt).trans A2.out
          cases hbit : l.testBit k with
          | true =>
            have k1 := A3.cell k (by omega)
            have E1 : Hid (decide ((k : Int) ∈ told l) = true) := (told_nat hl k).trans hbit
            have S3 : Hid (Src wr sp2 (told l)) := HS2.out.below hbx
            have hd : Hid ((downs l (k + 1)).length = c + 1) := by show _ = _; rw [hc.out]; simp [downs, hbit]
            rw [hbit] at k1
            have hlB := A3.lt
            clear A3 hc
            go_wp2
            go_quiet ((go_at_call 7; exact Calls.quiet_of_same (has_is' hl (S3.out.below (below_drewN _ _)) HM.out.symm _ _ _ E1.out)))
            have hdr := below_drewN wr nq
            have k2 := (hdr.cell (p := ⟨B, k, none⟩) hlB).trans k1
            have hby := hbx.trans (hdr.mono hbx.size)
            clear hdr k1 S3
            generalize wr.drewN nq = wd at *
            go_wp2
            go_roundg g
            case measure => omega
            case rel => exact ⟨k + 1, c + 1, by omega, by go_num, by go_num, by omega, hby, hd.out.symm⟩
          | false =>
            have k1 := A3.cell k (by omega)
            have E1 : Hid (decide ((k : Int) ∈ told l) = false) := (told_nat hl k).trans hbit
            have S3 : Hid (Src wr sp2 (told l)) := HS2.out.below hbx
            have hd : Hid ((downs l (k + 1)).length = c) := by show _ = _; rw [hc.out]; simp [downs, hbit]
            rw [hbit] at k1
            have hlB := A3.lt
            clear A3 hc
            go_wp2
            go_quiet ((go_at_call 7; exact Calls.quiet_of_same (has_is' hl (S3.out.below (below_drewN _ _)) HM.out.symm _ _ _ E1.out)))
            have hdr := below_drewN wr nq
            have k2 := (hdr.cell (p := ⟨B, k, none⟩) hlB).trans k1
            have hby := hbx.trans (hdr.mono hbx.size)
            clear hdr k1 S3
            generalize wr.drewN nq = wd at *
            go_wp2
            go_roundg g
            case measure => omega
            case rel => exact ⟨k + 1, c, by omega, by go_num, by go_num, by omega, hby, hd.out.symm⟩
        | zero =>
          have hlt2 : ¬ ((k : Int) < 32) := by omega
          obtain rfl : c = m := by rw [hc.out, hmm.out, show k = 32 by omega]
          go_wp2
          go_ret
          exact ⟨rfl, HB2.out.trans (hbx.mono HB2.out.size)⟩
theorem last_any {w : World} {sp : Option Addr} {zs : List Int} (hs : BSrc w.heap.size w sp zs) (hm : zs.length ≤ maxLen) (cap : Nat) :
    Calls Try.prog 4 #[.slice sp zs.length cap] w fun e w' => e = .returned (.bool true) ∧ Below w.heap.size w w' := by
  by_cases h : zs.length ≤ 100
  · exact last_few hs rfl h cap
  · exact last_many (by omega) cap hm
end Go.Proofs.Ytjcaiejbibhpiab
