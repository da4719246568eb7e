/- Of which kind of thing something is asked: the code's answer, by an array of slices, and the document's. -/
import Derived.Test.YteicnekoogmmmaaGreatDoorQMem
import Derived.Laws.Rows
import Derived.Laws.EntriesVeiled
import Derived.Deep.RegionLaw
import Derived.Deep.RegionHeld3
namespace Go.Proofs.YteicnekoogmmmaaGreatDoor.Tk
open Go Go.RowKit
set_option maxRecDepth 100000
set_option linter.unusedVariables false
set_option linter.unusedSimpArgs false
theorem hold_iff {a b : Bool} (h : a = true ↔ b = true) : a = b := Bool.eq_iff_iff.2 h
theorem ret_b {a b : Bool} (h : a = true ↔ b = true) : Ending.returned (Value.bool a) = .returned (.bool b) := by rw [hold_iff h]
def kd (w : Int) : Int := if w = 3 ∨ w = 4 then 1 else if w = 5 ∨ w = 6 then 2 else if 7 ≤ w ∧ w ≤ 10 then 3 else if 11 ≤ w ∧ w ≤ 13 then 4 else if w = 14 ∨ w = 15 then 5 else if w = 16 ∨ w = 17 then 6 else 0
def fitB (w k : Int) : Bool := decide (kd w ≠ 0 ∧ kd w = k)
/-- below any number that the world has -/
theorem bcell {W w1 : World} {B : Nat} (hb : Below B W w1) : (∀ b o, b < B → w1.cell? ⟨b, o, none⟩ = W.cell? ⟨b, o, none⟩) ∧ (∀ b o, b < B → w1.frozen? ⟨b, o, none⟩ = W.frozen? ⟨b, o, none⟩) :=
  ⟨fun b o h => hb.cell (p := ⟨b, o, none⟩) h, fun b o h => hb.frozen (p := ⟨b, o, none⟩) h⟩
def asks : List Int := [3, 4, 5, 6, 7, 8, 9, 10, 11, 12, 13, 14, 15, 16, 17]
theorem index_any (zs : List Int) (p o c : Nat) (x : Int) (w : World) (hz : zs.length ≤ 100) (hc : ∀ i v, zs[i]? = some v → w.cell? ⟨p, o + i, none⟩ = some (.int .u8 v)) :
    Calls Tryz.prog 78 #[.slice (some ⟨p, o, none⟩) zs.length c, .int .u8 x] w fun e w' => (∃ k : Int, e = .returned (.int .i64 k) ∧ (0 ≤ k ↔ x ∈ zs)) ∧ w = w' := by
  go_enter Tryz.func78, Tryz.ntmps78
  go_wp2
  go_loopg [5, 8] zs.length (fun g s5 s8 wx => ∃ k : Nat, k + g = zs.length ∧ s8 = .int .i64 (k : Nat) ∧ w = wx ∧ Hid (∀ i v, i < k → zs[i]? = some v → v ≠ x))
  case atStart => exact ⟨0, by omega, rfl, rfl, fun i v h => by omega⟩
  case round =>
    obtain ⟨k, hk, rfl, rfl, HN⟩ := hrel
    cases gk with
    | zero =>
      have hk : k = zs.length := by omega
      subst hk
      have HX : Hid (x ∉ zs) := fun h => by
        obtain ⟨i, hi⟩ := List.getElem?_of_mem h
        have hlt : i < zs.length := by
          rcases Nat.lt_or_ge i zs.length with a | a
          · exact a
          · rw [List.getElem?_eq_none a] at hi; cases hi
        exact HN.out i x hlt hi rfl
      clear HN
      go_wp2
      go_ret
      exact ⟨⟨_, rfl, ⟨fun h => absurd h (by omega), fun h => absurd h HX.out⟩⟩, rfl⟩
    | succ g =>
      have hlt : k < zs.length := by omega
      obtain ⟨v, hv⟩ : ∃ v, zs[k]? = some v := ⟨_, List.getElem?_eq_getElem hlt⟩
      have hcell := hc k v hv
      have HV : Hid (zs[k]? = some v) := hv
      clear hv hc
      by_cases e : x = v
      · subst e
        go_wp2
        go_ret
        exact ⟨⟨_, rfl, ⟨fun _ => List.mem_of_getElem? HV.out, fun _ => by omega⟩⟩, rfl⟩
      · have hne : (x == v) = false := beq_false_of_ne e
        have HN2 : Hid (∀ i v, i < k + 1 → zs[i]? = some v → v ≠ x) := fun i u hi hu => by
          rcases Nat.lt_or_ge i k with a | a
          · exact HN.out i u a hu
          · obtain rfl : i = k := by omega
            rw [HV.out] at hu
            injection hu with hu
            exact fun q => e (by rw [← q, hu])
        clear HN
        go_wp2
        go_roundg g
        case measure => omega
        case rel => exact ⟨k + 1, by omega, by go_num, rfl, HN2⟩
theorem index_nil (x : Int) (w : World) : Calls Tryz.prog 78 #[.slice none 0 0, .int .u8 x] w fun e w' => e = .returned (.int .i64 (-1)) ∧ w = w' := by
  go_enter Tryz.func78, Tryz.ntmps78
  go_wp2
  go_loopg [5, 8] 1 (fun g s5 s8 wx => s8 = .int .i64 0 ∧ w = wx)
  case atStart => exact ⟨rfl, rfl⟩
  case round =>
    obtain ⟨rfl, rfl⟩ := hrel
    go_wp2
    go_ret
    exact ⟨rfl, rfl⟩
theorem has_any (zs : List Int) (p o c : Nat) (x : Int) (w : World) (hz : zs.length ≤ 100) (hc : ∀ i v, zs[i]? = some v → w.cell? ⟨p, o + i, none⟩ = some (.int .u8 v)) :
    Calls Tryz.prog 53 #[.slice (some ⟨p, o, none⟩) zs.length c, .int .u8 x] w fun e w' => e = .returned (.bool (decide (x ∈ zs))) ∧ w = w' := by
  have hI := index_any zs p o c x w hz hc
  clear hc
  go_enter Tryz.func53, Tryz.ntmps53
  go_wp2_with (first
    | (go_at_call 78; refine hI.mono ?_; rintro e wx ⟨⟨k, rfl, hk⟩, rfl⟩))
  go_ret
  exact ⟨ret_b (by rw [decide_eq_true_eq]), rfl⟩
theorem has_nil (x : Int) (w : World) : Calls Tryz.prog 53 #[.slice none 0 0, .int .u8 x] w fun e w' => e = .returned (.bool false) ∧ w = w' := by
  go_enter Tryz.func53, Tryz.ntmps53
  go_wp2_with (first
    | (go_at_call 78; refine (index_nil _ _).mono ?_; rintro e wx ⟨rfl, rfl⟩))
  go_ret
  exact ⟨rfl, rfl⟩
theorem two_at (w : World) (a b : Obj) : ((w.alloc a).alloc b).drew.heap[w.heap.size]? = some a ∧ ((w.alloc a).alloc b).drew.heap[w.heap.size + 1]? = some b ∧ Below w.heap.size w ((w.alloc a).alloc b).drew ∧ w.heap.size + 1 < ((w.alloc a).alloc b).drew.heap.size := by
  have s1 : (w.alloc a).heap.size = w.heap.size + 1 := by show (w.heap.push a).size = _; exact Array.size_push _
  have s2 : ((w.alloc a).alloc b).heap.size = (w.alloc a).heap.size + 1 := by show ((w.alloc a).heap.push b).size = _; exact Array.size_push _
  have b2 : Below (w.alloc a).heap.size (w.alloc a) ((w.alloc a).alloc b) := (Below.refl _ _).alloc (Nat.le_refl _) _
  refine ⟨?_, ?_, (((Below.refl _ _).alloc (Nat.le_refl _) _).trans (b2.mono (by omega))).drew, by show _ < ((w.alloc a).alloc b).heap.size; omega⟩
  · show ((w.alloc a).alloc b).heap[w.heap.size]? = some a
    rw [b2.block _ (by omega)]; show (w.heap.push a)[w.heap.size]? = some a; exact Array.getElem?_push_size
  · show ((w.alloc a).heap.push b)[w.heap.size + 1]? = some b
    rw [← s1]; exact Array.getElem?_push_size
theorem asks_at (i : Nat) (v : Int) (h : asks[i]? = some v) : (#[.int .u8 3, .int .u8 4, .int .u8 5, .int .u8 6, .int .u8 7, .int .u8 8, .int .u8 9, .int .u8 10, .int .u8 11, .int .u8 12, .int .u8 13, .int .u8 14, .int .u8 15, .int .u8 16, .int .u8 17] : Array Value)[i]? = some (.int .u8 v) := by
  have e : (#[.int .u8 3, .int .u8 4, .int .u8 5, .int .u8 6, .int .u8 7, .int .u8 8, .int .u8 9, .int .u8 10, .int .u8 11, .int .u8 12, .int .u8 13, .int .u8 14, .int .u8 15, .int .u8 16, .int .u8 17] : Array Value) = (asks.map (Value.int .u8)).toArray := rfl
  rw [e, List.getElem?_toArray, List.getElem?_map, h]; rfl
set_option maxHeartbeats 4000000 in
theorem asked_any (w : World) : Calls Tryz.prog 52 #[] w fun e w' => (∃ p : Nat, e = .returned (.agg #[.slice none 0 0, .slice (some ⟨p, 0, none⟩) 2 2, .slice (some ⟨p, 2, none⟩) 2 2, .slice (some ⟨p, 4, none⟩) 4 4, .slice (some ⟨p, 8, none⟩) 3 3, .slice (some ⟨p, 11, none⟩) 2 2, .slice (some ⟨p, 13, none⟩) 2 2]) ∧ p < w'.heap.size ∧ (∀ i v, asks[i]? = some v → w'.cell? ⟨p, i, none⟩ = some (.int .u8 v))) ∧ Below w.heap.size w w' := by
  go_enter Tryz.func52, Tryz.ntmps52
  go_wp2
  go_region
  go_wp2
  obtain ⟨h0, h1, hb, hl⟩ := two_at w (.cells (#[.slice none 0 0, .slice (some ⟨w.heap.size + 1, 0, none⟩) 2 2, .slice (some ⟨w.heap.size + 1, 2, none⟩) 2 2, .slice (some ⟨w.heap.size + 1, 4, none⟩) 4 4, .slice (some ⟨w.heap.size + 1, 8, none⟩) 3 3, .slice (some ⟨w.heap.size + 1, 11, none⟩) 2 2, .slice (some ⟨w.heap.size + 1, 13, none⟩) 2 2]) 99) (.cells #[.int .u8 3, .int .u8 4, .int .u8 5, .int .u8 6, .int .u8 7, .int .u8 8, .int .u8 9, .int .u8 10, .int .u8 11, .int .u8 12, .int .u8 13, .int .u8 14, .int .u8 15, .int .u8 16, .int .u8 17] 160)
  refine bodyPost_ret (results_cell_row (g := w.heap.size) rfl _ _ _ _ _ (d := .array 7 98) rfl h0 Tryz.underlying99 rfl (by kernel_rfl)) rfl ?_
  exact ⟨⟨w.heap.size + 1, rfl, hl, fun i v h => by rw [cell_of h1]; exact asks_at i v h⟩, hb⟩
theorem fitB_iff (w k : Int) : fitB w k = true ↔ (kd w ≠ 0 ∧ kd w = k) := by unfold fitB; exact decide_eq_true_iff
theorem fit_1 (x : Int) : decide (x ∈ ([3, 4] : List Int)) = fitB x 1 := by
  refine hold_iff ?_
  rw [decide_eq_true_eq, fitB_iff]
  simp only [List.mem_cons, List.not_mem_nil, or_false]
  unfold kd
  repeat (first | omega | split)
theorem fit_2 (x : Int) : decide (x ∈ ([5, 6] : List Int)) = fitB x 2 := by
  refine hold_iff ?_
  rw [decide_eq_true_eq, fitB_iff]
  simp only [List.mem_cons, List.not_mem_nil, or_false]
  unfold kd
  repeat (first | omega | split)
theorem fit_3 (x : Int) : decide (x ∈ ([7, 8, 9, 10] : List Int)) = fitB x 3 := by
  refine hold_iff ?_
  rw [decide_eq_true_eq, fitB_iff]
  simp only [List.mem_cons, List.not_mem_nil, or_false]
  unfold kd
  repeat (first | omega | split)
theorem fit_4 (x : Int) : decide (x ∈ ([11, 12, 13] : List Int)) = fitB x 4 := by
  refine hold_iff ?_
  rw [decide_eq_true_eq, fitB_iff]
  simp only [List.mem_cons, List.not_mem_nil, or_false]
  unfold kd
  repeat (first | omega | split)
theorem fit_5 (x : Int) : decide (x ∈ ([14, 15] : List Int)) = fitB x 5 := by
  refine hold_iff ?_
  rw [decide_eq_true_eq, fitB_iff]
  simp only [List.mem_cons, List.not_mem_nil, or_false]
  unfold kd
  repeat (first | omega | split)
theorem fit_6 (x : Int) : decide (x ∈ ([16, 17] : List Int)) = fitB x 6 := by
  refine hold_iff ?_
  rw [decide_eq_true_eq, fitB_iff]
  simp only [List.mem_cons, List.not_mem_nil, or_false]
  unfold kd
  repeat (first | omega | split)
theorem piece_1 (i : Nat) (v : Int) (h : ([3, 4] : List Int)[i]? = some v) : asks[0 + i]? = some v := by
  rcases i with _ | _ | i
  · exact h
  · exact h
  · simp at h
theorem piece_2 (i : Nat) (v : Int) (h : ([5, 6] : List Int)[i]? = some v) : asks[2 + i]? = some v := by
  rcases i with _ | _ | i
  · exact h
  · exact h
  · simp at h
theorem piece_3 (i : Nat) (v : Int) (h : ([7, 8, 9, 10] : List Int)[i]? = some v) : asks[4 + i]? = some v := by
  rcases i with _ | _ | _ | _ | i
  · exact h
  · exact h
  · exact h
  · exact h
  · simp at h
theorem piece_4 (i : Nat) (v : Int) (h : ([11, 12, 13] : List Int)[i]? = some v) : asks[8 + i]? = some v := by
  rcases i with _ | _ | _ | i
  · exact h
  · exact h
  · exact h
  · simp at h
theorem piece_5 (i : Nat) (v : Int) (h : ([14, 15] : List Int)[i]? = some v) : asks[11 + i]? = some v := by
  rcases i with _ | _ | i
  · exact h
  · exact h
  · simp at h
theorem piece_6 (i : Nat) (v : Int) (h : ([16, 17] : List Int)[i]? = some v) : asks[13 + i]? = some v := by
  rcases i with _ | _ | i
  · exact h
  · exact h
  · simp at h
theorem has_q {wx : World} {p : Nat} (hp : p < wx.heap.size) (hc : ∀ i v, asks[i]? = some v → wx.cell? ⟨p, i, none⟩ = some (.int .u8 v)) (W : World) (hb : Below wx.heap.size wx W) (n : Nat) (zs : List Int) (o c : Nat) (hz : zs.length ≤ 100) (hs : ∀ i v, zs[i]? = some v → asks[o + i]? = some v) (m : Nat) (hm : zs.length = m) (x : Int) (q : Bool) (hq : decide (x ∈ zs) = q) :
    Calls Tryz.prog 53 #[.slice (some ⟨p, o, none⟩) m c, .int .u8 x] (W.drewN n) fun e w' => e = .returned (.bool q) ∧ w' = W.drewN n := by
  subst hm hq
  have hb2 : Below wx.heap.size wx (W.drewN n) := hb.trans ((below_drewN W n).mono hb.size)
  exact (has_any zs p o c x _ hz (fun i v h => by rw [(bcell hb2).1 p _ hp]; exact hc _ _ (hs i v h))).mono fun e w' h => ⟨h.1, h.2.symm⟩
theorem has_qn (W : World) (n : Nat) (x : Int) : Calls Tryz.prog 53 #[.slice none 0 0, .int .u8 x] (W.drewN n) fun e w' => e = .returned (.bool false) ∧ w' = W.drewN n :=
  (has_nil x _).mono fun e w' h => ⟨h.1, h.2.symm⟩
theorem fit_0 (x : Int) : false = fitB x 0 := by
  refine hold_iff ?_
  rw [fitB_iff]
  simp
theorem fit_far (x k : Int) (h : 7 ≤ k) : false = fitB x k := by
  refine hold_iff ?_
  rw [fitB_iff]
  simp only [Bool.false_eq_true, false_iff]
  unfold kd
  repeat (first | omega | split)
set_option maxHeartbeats 4000000 in
theorem fits_any (wh ah av am aw k : Int) (hk : 0 ≤ k ∧ k ≤ 255) (w : World) : Calls Tryz.prog 19 #[.agg #[.int .u8 wh, .int .u32 ah, .int .u32 av, .int .u32 am, .int .i64 aw], .int .u8 k] w fun e w' => e = .returned (.bool (fitB wh k)) ∧ Below w.heap.size w w' := by
  have hA := fun wx => asked_any wx
  by_cases h7 : k < 7
  · obtain rfl | rfl | rfl | rfl | rfl | rfl | rfl : k = 0 ∨ k = 1 ∨ k = 2 ∨ k = 3 ∨ k = 4 ∨ k = 5 ∨ k = 6 := by omega
    · rw [← fit_0]
      clear hk h7
      go_enter Tryz.func19, Tryz.ntmps19
      go_wp2_with (first
        | (go_at_call 52; refine (hA _).mono ?_; rintro e wx ⟨⟨p, rfl, hp, hc⟩, hb⟩; obtain ⟨hc1, hf1⟩ := bcell hb; clear hA; have HC : Hid (∀ i v, asks[i]? = some v → wx.cell? ⟨p, i, none⟩ = some (.int .u8 v)) := hc; clear hc; have hz : w.heap.size < wx.heap.size := by (have := hb.size; simp at this; omega)))
      go_quiet ((go_at_call 53; exact Calls.quiet_of_same (has_qn _ _ _)))
      go_wp2
      go_ret
      refine ⟨rfl, ?_⟩
      have b1 := ((Below.refl w.heap.size w).alloc (Nat.le_refl _) (.cells #[.int .u8 wh, .int .u32 ah, .int .u32 av, .int .u32 am, .int .i64 aw] 39)).trans (hb.mono (by simp))
      exact (b1.alloc b1.size _).trans ((below_drewN _ _).mono (by simp; omega))
    · clear hk h7
      go_enter Tryz.func19, Tryz.ntmps19
      go_wp2_with (first
        | (go_at_call 52; refine (hA _).mono ?_; rintro e wx ⟨⟨p, rfl, hp, hc⟩, hb⟩; obtain ⟨hc1, hf1⟩ := bcell hb; clear hA; have HC : Hid (∀ i v, asks[i]? = some v → wx.cell? ⟨p, i, none⟩ = some (.int .u8 v)) := hc; clear hc; have hz : w.heap.size < wx.heap.size := by (have := hb.size; simp at this; omega)))
      go_quiet ((go_at_call 53; exact Calls.quiet_of_same (has_q hp HC.out _ ((Below.refl _ _).alloc (Nat.le_refl _) _) _ [3, 4] 0 2 (by decide) piece_1 2 rfl _ _ (fit_1 _))))
      go_wp2
      go_ret
      refine ⟨rfl, ?_⟩
      have b1 := ((Below.refl w.heap.size w).alloc (Nat.le_refl _) (.cells #[.int .u8 wh, .int .u32 ah, .int .u32 av, .int .u32 am, .int .i64 aw] 39)).trans (hb.mono (by simp))
      exact (b1.alloc b1.size _).trans ((below_drewN _ _).mono (by simp; omega))
    · clear hk h7
      go_enter Tryz.func19, Tryz.ntmps19
      go_wp2_with (first
        | (go_at_call 52; refine (hA _).mono ?_; rintro e wx ⟨⟨p, rfl, hp, hc⟩, hb⟩; obtain ⟨hc1, hf1⟩ := bcell hb; clear hA; have HC : Hid (∀ i v, asks[i]? = some v → wx.cell? ⟨p, i, none⟩ = some (.int .u8 v)) := hc; clear hc; have hz : w.heap.size < wx.heap.size := by (have := hb.size; simp at this; omega)))
      go_quiet ((go_at_call 53; exact Calls.quiet_of_same (has_q hp HC.out _ ((Below.refl _ _).alloc (Nat.le_refl _) _) _ [5, 6] 2 2 (by decide) piece_2 2 rfl _ _ (fit_2 _))))
      go_wp2
      go_ret
      refine ⟨rfl, ?_⟩
      have b1 := ((Below.refl w.heap.size w).alloc (Nat.le_refl _) (.cells #[.int .u8 wh, .int .u32 ah, .int .u32 av, .int .u32 am, .int .i64 aw] 39)).trans (hb.mono (by simp))
      exact (b1.alloc b1.size _).trans ((below_drewN _ _).mono (by simp; omega))
    · clear hk h7
      go_enter Tryz.func19, Tryz.ntmps19
      go_wp2_with (first
        | (go_at_call 52; refine (hA _).mono ?_; rintro e wx ⟨⟨p, rfl, hp, hc⟩, hb⟩; obtain ⟨hc1, hf1⟩ := bcell hb; clear hA; have HC : Hid (∀ i v, asks[i]? = some v → wx.cell? ⟨p, i, none⟩ = some (.int .u8 v)) := hc; clear hc; have hz : w.heap.size < wx.heap.size := by (have := hb.size; simp at this; omega)))
      go_quiet ((go_at_call 53; exact Calls.quiet_of_same (has_q hp HC.out _ ((Below.refl _ _).alloc (Nat.le_refl _) _) _ [7, 8, 9, 10] 4 4 (by decide) piece_3 4 rfl _ _ (fit_3 _))))
      go_wp2
      go_ret
      refine ⟨rfl, ?_⟩
      have b1 := ((Below.refl w.heap.size w).alloc (Nat.le_refl _) (.cells #[.int .u8 wh, .int .u32 ah, .int .u32 av, .int .u32 am, .int .i64 aw] 39)).trans (hb.mono (by simp))
      exact (b1.alloc b1.size _).trans ((below_drewN _ _).mono (by simp; omega))
    · clear hk h7
      go_enter Tryz.func19, Tryz.ntmps19
      go_wp2_with (first
        | (go_at_call 52; refine (hA _).mono ?_; rintro e wx ⟨⟨p, rfl, hp, hc⟩, hb⟩; obtain ⟨hc1, hf1⟩ := bcell hb; clear hA; have HC : Hid (∀ i v, asks[i]? = some v → wx.cell? ⟨p, i, none⟩ = some (.int .u8 v)) := hc; clear hc; have hz : w.heap.size < wx.heap.size := by (have := hb.size; simp at this; omega)))
      go_quiet ((go_at_call 53; exact Calls.quiet_of_same (has_q hp HC.out _ ((Below.refl _ _).alloc (Nat.le_refl _) _) _ [11, 12, 13] 8 3 (by decide) piece_4 3 rfl _ _ (fit_4 _))))
      go_wp2
      go_ret
      refine ⟨rfl, ?_⟩
      have b1 := ((Below.refl w.heap.size w).alloc (Nat.le_refl _) (.cells #[.int .u8 wh, .int .u32 ah, .int .u32 av, .int .u32 am, .int .i64 aw] 39)).trans (hb.mono (by simp))
      exact (b1.alloc b1.size _).trans ((below_drewN _ _).mono (by simp; omega))
    · clear hk h7
      go_enter Tryz.func19, Tryz.ntmps19
      go_wp2_with (first
        | (go_at_call 52; refine (hA _).mono ?_; rintro e wx ⟨⟨p, rfl, hp, hc⟩, hb⟩; obtain ⟨hc1, hf1⟩ := bcell hb; clear hA; have HC : Hid (∀ i v, asks[i]? = some v → wx.cell? ⟨p, i, none⟩ = some (.int .u8 v)) := hc; clear hc; have hz : w.heap.size < wx.heap.size := by (have := hb.size; simp at this; omega)))
      go_quiet ((go_at_call 53; exact Calls.quiet_of_same (has_q hp HC.out _ ((Below.refl _ _).alloc (Nat.le_refl _) _) _ [14, 15] 11 2 (by decide) piece_5 2 rfl _ _ (fit_5 _))))
      go_wp2
      go_ret
      refine ⟨rfl, ?_⟩
      have b1 := ((Below.refl w.heap.size w).alloc (Nat.le_refl _) (.cells #[.int .u8 wh, .int .u32 ah, .int .u32 av, .int .u32 am, .int .i64 aw] 39)).trans (hb.mono (by simp))
      exact (b1.alloc b1.size _).trans ((below_drewN _ _).mono (by simp; omega))
    · clear hk h7
      go_enter Tryz.func19, Tryz.ntmps19
      go_wp2_with (first
        | (go_at_call 52; refine (hA _).mono ?_; rintro e wx ⟨⟨p, rfl, hp, hc⟩, hb⟩; obtain ⟨hc1, hf1⟩ := bcell hb; clear hA; have HC : Hid (∀ i v, asks[i]? = some v → wx.cell? ⟨p, i, none⟩ = some (.int .u8 v)) := hc; clear hc; have hz : w.heap.size < wx.heap.size := by (have := hb.size; simp at this; omega)))
      go_quiet ((go_at_call 53; exact Calls.quiet_of_same (has_q hp HC.out _ ((Below.refl _ _).alloc (Nat.le_refl _) _) _ [16, 17] 13 2 (by decide) piece_6 2 rfl _ _ (fit_6 _))))
      go_wp2
      go_ret
      refine ⟨rfl, ?_⟩
      have b1 := ((Below.refl w.heap.size w).alloc (Nat.le_refl _) (.cells #[.int .u8 wh, .int .u32 ah, .int .u32 av, .int .u32 am, .int .i64 aw] 39)).trans (hb.mono (by simp))
      exact (b1.alloc b1.size _).trans ((below_drewN _ _).mono (by simp; omega))
  · rw [← fit_far wh k (by omega)]
    have hd : decide (k < 7) = false := decide_eq_false h7
    go_enter Tryz.func19, Tryz.ntmps19
    go_wp2_with (first
      | (go_at_call 52; refine (hA _).mono ?_; rintro e wx ⟨⟨p, rfl, hp, hc⟩, hb⟩; obtain ⟨hc1, hf1⟩ := bcell hb; clear hA; have HC : Hid (∀ i v, asks[i]? = some v → wx.cell? ⟨p, i, none⟩ = some (.int .u8 v)) := hc; clear hc; have hz : w.heap.size < wx.heap.size := by (have := hb.size; simp at this; omega)))
    go_quiet (fail)
    go_wp2
    go_ret
    refine ⟨rfl, ?_⟩
    have b1 := ((Below.refl w.heap.size w).alloc (Nat.le_refl _) (.cells #[.int .u8 wh, .int .u32 ah, .int .u32 av, .int .u32 am, .int .i64 aw] 39)).trans (hb.mono (by simp))
    exact (b1.alloc b1.size _).trans ((below_drewN _ _).mono (by simp; omega))
set_option maxHeartbeats 4000000 in
theorem rfits_any (wh ah av am aw k : Int) (hk : 0 ≤ k ∧ k ≤ 255) (w : World) : Calls Tryz.prog 21 #[.agg #[.int .u8 wh, .int .u32 ah, .int .u32 av, .int .u32 am, .int .i64 aw], .int .u8 k] w fun e w' => e = .returned (.bool (fitB wh k)) ∧ Below w.heap.size w w' := by
  go_enter Tryz.func21, Tryz.ntmps21
  go_wp2
  all_goals (go_ret; refine ⟨ret_b ?_, (Below.refl _ _).alloc (Nat.le_refl _) _⟩; rw [fitB_iff]; (try simp only [beq_iff_eq, beq_eq_false_iff_ne, ne_eq, Bool.false_eq_true, false_iff] at *); unfold kd; repeat (first | omega | split))
end Go.Proofs.YteicnekoogmmmaaGreatDoor.Tk
