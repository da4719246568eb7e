/- ReadyPlays: whatever is put, pushed, removed and turned, who runs next, and who stands where, is the chapter's answer, in new memory. -/
import Derived.Test.YtjhpiecbolmleaaGreatDoorPlaySt
import Derived.Deep.RegionHeld3
namespace Go.Proofs.YtjhpiecbolmleaaGreatDoor
open Go Go.RowKit Go.Shelf
set_option maxRecDepth 100000
set_option linter.unusedVariables false
set_option linter.unusedSimpArgs false
theorem Good.lens {X : Nat → List Int} (h : Good X) : ∀ r, r < 32 → (X r).length ≤ 256 := fun r hr => few 256 (X r) (h.nd r hr) (fun x hx => by have := h.lo r hr x hx; omega)
set_option maxHeartbeats 16000000 in
theorem play_any {w : World} {sa : Option Addr} {acts : List (Int × Int × Int)} (ha : Acts w.heap.size w sa acts) (hma : acts.length ≤ maxLen) (ca : Nat) :
    Calls Tryz.prog 3 #[.slice sa acts.length ca] w fun e w' => e = .returned (.bool true) ∧ Below w.heap.size w w' := by
  unfold maxLen at hma
  obtain ⟨m, hm'⟩ : ∃ m, acts.length = m := ⟨_, rfl⟩
  rw [hm'] at hma ⊢
  have HM : Hid (acts.length = m) := hm'
  have HA : Hid (Acts w.heap.size w sa acts) := ha
  clear hm' ha
  by_cases hbig : 300 < m
  · go_enter Tryz.func3, Tryz.ntmps3
    go_wp2_with (first | (go_at_call 4; refine (lives_any _).mono ?_; rintro e w1 ⟨rfl, hB⟩))
    go_ret
    exact ⟨rfl, hB⟩
  · obtain ⟨B, hB0⟩ : ∃ B, w.heap.size = B := ⟨_, rfl⟩
    have hN := qnew_any w
    rw [hB0] at hN HA ⊢
    have HB0 : Hid (w.heap.size = B) := hB0
    clear hB0
    go_enter Tryz.func3, Tryz.ntmps3
    go_wp2_with (first
      | (go_at_call 6; refine (knew_any s w0 (by rw [HS0.out]; exact Nat.le_refl _)).mono ?_; rintro e w1 ⟨rfl, k1, m1⟩; have K1 : Hid (QS B s w1 B Y0 ∧ KS s w1 w0.heap.size Y0) := ⟨Q0.out.below m1, k1⟩; have M1 : Far B w w1 := M.low m1; clear k1 m1)
      | (go_at_call 5; refine hN.mono ?_; rintro e w0 ⟨rfl, q0, m0⟩; obtain ⟨s, hs⟩ : ∃ s, w0.heap.size = s := ⟨_, rfl⟩; have HS0 : Hid (w0.heap.size = s) := hs; rw [hs] at q0; have Q0 : Hid (QS B s w0 B Y0) := q0; have M : Far B w w0 := ⟨m0, by have := m0.size; have := HB0.out; omega⟩; clear q0 m0 hs))
    have HP0 : Hid (PS B s w (w1.alloc (.cells (bk 0 (.slice none 0 0)) 37)) w0.heap.size w1.heap.size 0 (.slice none 0 0) [] Y0 Y0) := by
      have hbb := alloc_below w1 (.cells (bk 0 (.slice none 0 0)) 37)
      have hK := Bk.start (w := w1) (B := s) K1.out.1.le.1
      exact ⟨K1.out.1.below hbb, K1.out.2.below hbb, hK, ⟨fun j e he => by simp at he, fun j k e f _ he => by simp at he, fun j e he => by simp at he, fun j e he => by simp at he⟩, M1.low hbb, rfl⟩
    clear K1 M1 Q0 M
    generalize w1.heap.size = K at *
    generalize w0.heap.size = q at *
    go_loopg [6] m (fun gk s6 wx => ∃ (i nb : Nat) (v : Value) (E : List Ent) (X : Nat → List Int), i + gk = m ∧ nb = i ∧ s6 = .int .i64 (i : Int) ∧ Hid (PS B s w wx q K nb v E X X))
    case atStart => exact ⟨0, 0, _, _, _, by omega, rfl, rfl, HP0⟩
    case round =>
      clear HP0
      obtain ⟨i, nb, v, E, X, hig, hnb, rfl, HT⟩ := hrel
      cases gk with
      | zero =>
        obtain rfl : i = m := by omega
        have hlt : ¬ ((i : Int) < i) := by omega
        go_wp2_with (first
          | (go_at_call 4; refine (lives_any _).mono ?_; rintro e w3 ⟨rfl, m3⟩; have HF : Hid (Far B w w3) := M2.out.low m3; clear m3)
          | (go_at_call 17; refine (apart_yes HT.out.book HT.out.lists).mono ?_; rintro e w2 ⟨rfl, hd2⟩; have M2 : Hid (Far B w w2) := ⟨HT.out.far.low'.trans (hd2.mono (by have := HT.out.que.le; omega)), Nat.le_trans HT.out.far.le hd2.size⟩; clear hd2))
        go_ret
        exact ⟨rfl, HF.out.low'⟩
      | succ g' =>
        have hlt : (i : Int) < m := by omega
        have hbi : i < 300 := by omega
        obtain ⟨⟨k, y, t⟩, hx⟩ : ∃ x, acts[i]? = some x := ⟨_, List.getElem?_eq_getElem (by rw [HM.out]; omega)⟩
        obtain ⟨b, off, rfl, hbl, hc⟩ := (HA.out.below HT.out.far.low').spot (by rw [HM.out]; omega)
        obtain ⟨y0, y1, y2⟩ := hc i _ hx
        obtain ⟨hk, _, _⟩ := HA.out.wf i _ hx
        simp only at y0 y1 y2 hk
        clear hc hx
        have hgX := HT.out.que.good
        have hgY := doX_good hgX (k, y, t)
        have HD : Hid (∀ w', QS B s w' B X → Calls Tryz.prog 7 #[.pointer (some ⟨B, 0, none⟩), .agg #[.int .u8 k, .int .i64 y, .int .i64 t]] w' fun e w'' => e = .returned (.int .i64 (doE X (k, y, t))) ∧ QS B s w'' B (doX X (k, y, t)) ∧ Mid B s w' w'') := fun w' h' => does_any h' (k, y, t) hk
        have HW : Hid (∀ w', KS s w' q X → Calls Tryz.prog 8 #[.pointer (some ⟨q, 0, none⟩), .agg #[.int .u8 k, .int .i64 y, .int .i64 t]] w' fun e w'' => e = .returned (.int .i64 (doE X (k, y, t))) ∧ KS s w'' q (doX X (k, y, t)) ∧ Buts [q] w' w'') := fun w' h' => want_any h' hgX hgX.lens (k, y, t) hk
        have hb0 := alloc_below wr (.cells #[.int .u8 k, .int .i64 y, .int .i64 t] 39)
        have HXX : Hid ((wr.alloc (.cells #[.int .u8 k, .int .i64 y, .int .i64 t] 39)).heap[wr.heap.size]? = some (.cells #[.int .u8 k, .int .i64 y, .int .i64 t] 39 (0, 0))) := alloc_at wr _
        have H4 : Hid (PS B s w (wr.alloc (.cells #[.int .u8 k, .int .i64 y, .int .i64 t] 39)) q K nb v E X X) := HT.out.below hb0
        have hsa := HT.out.que.le.1
        have haq : wr.heap.size ≠ q := by
          obtain ⟨us, hU⟩ := HT.out.ref
          have := at_lt hU.head
          omega
        generalize doE X (k, y, t) = ev at *
        obtain ⟨Y, hY⟩ : ∃ Y, doX X (k, y, t) = Y := ⟨_, rfl⟩
        rw [hY] at HD HW hgY
        have HGY : Hid (Good Y) := hgY
        clear hb0 hY hgX hgY
        go_wp2
        obtain ⟨a, hA⟩ : ∃ a, wr.heap.size = a := ⟨_, rfl⟩
        rw [hA] at HXX hsa haq
        simp only [hA]
        clear hA
        generalize wr.alloc (.cells #[.int .u8 k, .int .i64 y, .int .i64 t] 39) = w4 at *
        have hxw4 : Hid (w4.drew.heap[a]? = some (.cells #[.int .u8 k, .int .i64 y, .int .i64 t] 39 (0, 0))) := HXX.out
        have x0 : w4.cell? ⟨a, 0, none⟩ = some (.int .u8 k) := by rw [cell_of HXX.out]; rfl
        have x1 : w4.cell? ⟨a, 1, none⟩ = some (.int .i64 y) := by rw [cell_of HXX.out]; rfl
        have x2 : w4.cell? ⟨a, 2, none⟩ = some (.int .i64 t) := by rw [cell_of HXX.out]; rfl
        have H4d : Hid (PS B s w w4.drew q K nb v E X X) := H4.out.below (below_drewN _ 1)
        clear y0 y1 y2 HT H4
        go_region_held3 (fun w' => w'.cell? ⟨a, 0, none⟩ = some (.int .u8 k) ∧ w'.cell? ⟨a, 1, none⟩ = some (.int .i64 y) ∧ w'.cell? ⟨a, 2, none⟩ = some (.int .i64 t)) (go_keep) (first
          | (go_at_call 8; refine (HW.out _ H5.out.ref).mono ?_; rintro e w6 ⟨rfl, k6, m6⟩; have hxw6 : Hid (w6.heap[a]? = some (.cells #[.int .u8 k, .int .i64 y, .int .i64 t] 39 (0, 0))) := (m6.block a (at_lt hxw5.out) (by simp; exact haq)).trans hxw5.out; have xx0w6 : w6.cell? ⟨a, 0, none⟩ = some (.int .u8 k) := (by rw [cell_of hxw6.out]; rfl); have xx1w6 : w6.cell? ⟨a, 1, none⟩ = some (.int .i64 y) := (by rw [cell_of hxw6.out]; rfl); have xx2w6 : w6.cell? ⟨a, 2, none⟩ = some (.int .i64 t) := (by rw [cell_of hxw6.out]; rfl); have H6 : Hid (PS B s w w6 q K nb v E Y Y) := H5.out.setK m6 k6; clear k6 m6 H5)
          | (go_at_call 7; refine (HD.out _ G5.out.que).mono ?_; rintro e w6 ⟨rfl, q6, m6⟩; have hxw6 : Hid (w6.heap[a]? = some (.cells #[.int .u8 k, .int .i64 y, .int .i64 t] 39 (0, 0))) := (m6.block a (at_lt hxw5.out) (Or.inr hsa)).trans hxw5.out; have xx0w6 : w6.cell? ⟨a, 0, none⟩ = some (.int .u8 k) := (by rw [cell_of hxw6.out]; rfl); have xx1w6 : w6.cell? ⟨a, 1, none⟩ = some (.int .i64 y) := (by rw [cell_of hxw6.out]; rfl); have xx2w6 : w6.cell? ⟨a, 2, none⟩ = some (.int .i64 t) := (by rw [cell_of hxw6.out]; rfl); have H6 : Hid (PS B s w w6 q K nb v E Y Y) := G5.out.setQ m6 q6; clear q6 m6 G5)
          | (go_at_call 7; refine (HD.out _ H4d.out.que).mono ?_; rintro e w5 ⟨rfl, q5, m5⟩; have hxw5 : Hid (w5.heap[a]? = some (.cells #[.int .u8 k, .int .i64 y, .int .i64 t] 39 (0, 0))) := (m5.block a (at_lt hxw4.out) (Or.inr hsa)).trans hxw4.out; have xx0w5 : w5.cell? ⟨a, 0, none⟩ = some (.int .u8 k) := (by rw [cell_of hxw5.out]; rfl); have xx1w5 : w5.cell? ⟨a, 1, none⟩ = some (.int .i64 y) := (by rw [cell_of hxw5.out]; rfl); have xx2w5 : w5.cell? ⟨a, 2, none⟩ = some (.int .i64 t) := (by rw [cell_of hxw5.out]; rfl); have H5 : Hid (PS B s w w5 q K nb v E Y X) := H4d.out.setQ m5 q5; clear q5 m5 H4d)
          | (go_at_call 8; refine (HW.out _ H4d.out.ref).mono ?_; rintro e w5 ⟨rfl, k5, m5⟩; have hxw5 : Hid (w5.heap[a]? = some (.cells #[.int .u8 k, .int .i64 y, .int .i64 t] 39 (0, 0))) := (m5.block a (at_lt hxw4.out) (by simp; exact haq)).trans hxw4.out; have xx0w5 : w5.cell? ⟨a, 0, none⟩ = some (.int .u8 k) := (by rw [cell_of hxw5.out]; rfl); have xx1w5 : w5.cell? ⟨a, 1, none⟩ = some (.int .i64 y) := (by rw [cell_of hxw5.out]; rfl); have xx2w5 : w5.cell? ⟨a, 2, none⟩ = some (.int .i64 t) := (by rw [cell_of hxw5.out]; rfl); have G5 : Hid (PS B s w w5 q K nb v E X Y) := H4d.out.setK m5 k5; clear k5 m5 H4d))
        all_goals
          have HC1 : Hid (∀ w', QS B s w' B Y → Calls Tryz.prog 9 #[.pointer (some ⟨B, 0, none⟩)] w' fun e w'' => e = .returned (.tuple #[.int .i64 (fsv Y), .bool (fsb Y)]) ∧ Below w'.heap.size w' w'') := fun w' h' => qfirst_any h'
          have HC2 : Hid (∀ w', KS s w' q Y → Calls Tryz.prog 10 #[.pointer (some ⟨q, 0, none⟩)] w' fun e w'' => e = .returned (.tuple #[.int .i64 (fsv Y), .bool (fsb Y)]) ∧ w' = w'') := fun w' h' => kfirst_any h' HGY.out.lens
          have HC3 : Hid (∀ w', QS B s w' B Y → Calls Tryz.prog 11 #[.pointer (some ⟨B, 0, none⟩), .int .i64 y] w' fun e w'' => e = .returned (.tuple #[.int .i64 (rkv Y y), .bool (rkb Y y)]) ∧ Below w'.heap.size w' w'') := fun w' h' => qrank_any h' y
          have HC4 : Hid (∀ w', KS s w' q Y → Calls Tryz.prog 12 #[.pointer (some ⟨q, 0, none⟩), .int .i64 y] w' fun e w'' => e = .returned (.tuple #[.int .i64 (rkv Y y), .bool (rkb Y y)]) ∧ w' = w'') := fun w' h' => krank_any h' HGY.out.lens y
          obtain ⟨zs, hzs⟩ : ∃ zs, lsX Y t = zs := ⟨_, rfl⟩
          obtain ⟨c, hcl⟩ : ∃ c, zs.length = c := ⟨_, rfl⟩
          have HCL : Hid (zs.length = c) := hcl
          have hcn : c ≤ 256 := by
            rw [← hcl, ← hzs]
            unfold lsX; split
            · rename_i h; exact HGY.out.lens _ (by omega)
            · simp
          have HC5 : Hid (∀ w', QS B s w' B Y → Calls Tryz.prog 13 #[.pointer (some ⟨B, 0, none⟩), .int .i64 t] w' fun e w'' => ∃ sp cap, e = .returned (.slice sp c cap) ∧ w''.ownsRow w'.heap.size 3 1 (.slice sp c cap) c (zs.map (Value.int .i64)) ∧ Src w'' sp zs ∧ QS B s w'' B Y ∧ Below w'.heap.size w' w'') := fun w' h' => list_at h' hzs hcl
          have HC6 : Hid (∀ w', KS s w' q Y → Calls Tryz.prog 15 #[.pointer (some ⟨q, 0, none⟩), .int .i64 t] w' fun e w'' => ∃ sp cap, e = .returned (.slice sp c cap) ∧ Src w'' sp zs ∧ Below w'.heap.size w' w'') := fun w' h' => by
            have := klist_any h' HGY.out.lens t
            rw [hzs, hcl] at this
            exact this
          clear hzs hcl HD HW
          generalize fsv Y = fv at *
          generalize fsb Y = fb at *
          generalize rkv Y y = rv at *
          generalize rkb Y y = rb at *
          go_wp2_with (first
            | (go_at_call 9; refine (HC1.out _ H6.out.que).mono ?_; rintro e w7 ⟨rfl, m7⟩; have hxw7 : Hid (w7.heap[a]? = some (.cells #[.int .u8 k, .int .i64 y, .int .i64 t] 39 (0, 0))) := (m7.block a (at_lt hxw6.out)).trans hxw6.out; have xx0w7 : w7.cell? ⟨a, 0, none⟩ = some (.int .u8 k) := (by rw [cell_of hxw7.out]; rfl); have xx1w7 : w7.cell? ⟨a, 1, none⟩ = some (.int .i64 y) := (by rw [cell_of hxw7.out]; rfl); have xx2w7 : w7.cell? ⟨a, 2, none⟩ = some (.int .i64 t) := (by rw [cell_of hxw7.out]; rfl); have H7 : Hid (PS B s w w7 q K nb v E Y Y) := H6.out.below m7; clear m7)
            | (go_at_call 10; refine (HC2.out _ H7.out.ref).mono ?_; rintro e wx ⟨rfl, hwx⟩; obtain rfl := hwx)
            | (go_at_call 11; refine (HC3.out _ H7.out.que).mono ?_; rintro e w8 ⟨rfl, m8⟩; have hxw8 : Hid (w8.heap[a]? = some (.cells #[.int .u8 k, .int .i64 y, .int .i64 t] 39 (0, 0))) := (m8.block a (at_lt hxw7.out)).trans hxw7.out; have xx0w8 : w8.cell? ⟨a, 0, none⟩ = some (.int .u8 k) := (by rw [cell_of hxw8.out]; rfl); have xx1w8 : w8.cell? ⟨a, 1, none⟩ = some (.int .i64 y) := (by rw [cell_of hxw8.out]; rfl); have xx2w8 : w8.cell? ⟨a, 2, none⟩ = some (.int .i64 t) := (by rw [cell_of hxw8.out]; rfl); have H8 : Hid (PS B s w w8 q K nb v E Y Y) := H7.out.below m8; clear m8)
            | (go_at_call 12; refine (HC4.out _ H8.out.ref).mono ?_; rintro e wx ⟨rfl, hwx⟩; obtain rfl := hwx)
            | (go_at_call 13; refine (HC5.out _ H8.out.que).mono ?_; rintro e w9 ⟨sp9, c9, rfl, o9, r9, _, m9⟩; have hxw9 : Hid (w9.heap[a]? = some (.cells #[.int .u8 k, .int .i64 y, .int .i64 t] 39 (0, 0))) := (m9.block a (at_lt hxw8.out)).trans hxw8.out; have xx0w9 : w9.cell? ⟨a, 0, none⟩ = some (.int .u8 k) := (by rw [cell_of hxw9.out]; rfl); have xx1w9 : w9.cell? ⟨a, 1, none⟩ = some (.int .i64 y) := (by rw [cell_of hxw9.out]; rfl); have xx2w9 : w9.cell? ⟨a, 2, none⟩ = some (.int .i64 t) := (by rw [cell_of hxw9.out]; rfl); have HF9 : Hid (Fresh E (.slice sp9 c c9)) := H8.out.fresh o9; have HO9 : Hid (w9.ownsRow s 3 1 (.slice sp9 c c9) c (zs.map (Value.int .i64)) ∧ Src w9 sp9 zs) := ⟨owns_base o9 H8.out.que.le.1, r9⟩; have H9 : Hid (PS B s w w9 q K nb v E Y Y) := H8.out.below m9; clear o9 r9 m9)
            | (go_at_call 15; refine (HC6.out _ H9.out.ref).mono ?_; rintro e w10 ⟨sp10, c10, rfl, r10, m10⟩; have HO10 : Hid (w10.ownsRow s 3 1 (.slice sp9 c c9) c (zs.map (Value.int .i64)) ∧ Src w10 sp9 zs ∧ Src w10 sp10 zs) := ⟨owns_below HO9.out.1 m10, HO9.out.2.below m10, r10⟩; have H10 : Hid (PS B s w w10 q K nb v E Y Y) := H9.out.below m10; clear r10 m10)
            | (go_at_call 14; refine (same_is HO10.out.2.1 HO10.out.2.2 HCL.out (by omega) _ _).mono ?_; rintro e w11 ⟨rfl, m11⟩; have HO11 : Hid (w11.ownsRow s 3 1 (.slice sp9 c c9) c (zs.map (Value.int .i64))) := owns_below HO10.out.1 m11; have H11 : Hid (PS B s w w11 q K nb v E Y Y) := H10.out.below m11; clear m11)
            | (go_at_call 16; refine (book_put H11.out.book (by rw [H11.out.many]; omega) (by omega) _ _ _).mono ?_; rintro e w12 ⟨rfl, v12, k12, u12⟩; have H12 : Hid (PS B s w w12 q K (nb + 1) v12 _ Y Y) := H11.out.put (by omega) (by omega) HO11.out HF9.out k12 u12; clear k12 u12))
          go_roundg g'
          case measure => omega
          case rel => exact ⟨i + 1, nb + 1, _, _, _, by omega, by omega, by go_num, H12⟩
end Go.Proofs.YtjhpiecbolmleaaGreatDoor
