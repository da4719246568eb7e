/- WaitsPlay: whatever is put, removed and changed, who waits, in which order, is the chapter's answer, in new memory. -/
import Derived.Test.YtmdhlgdikchhlaaDoorPlaySt
namespace Go.Proofs.YtmdhlgdikchhlaaDoor
open Go Go.RowKit
set_option maxRecDepth 100000
set_option linter.unusedVariables false
set_option linter.unusedSimpArgs false
set_option maxHeartbeats 16000000 in
theorem play_any {w : World} {sa : Option Addr} {acts : List (Int × Int × Int)} (ha : Acts w.heap.size w sa acts) (hma : acts.length ≤ maxLen) (ca : Nat) :
    Calls Tryd.prog 3 #[.slice sa acts.length ca] w fun e w' => e = .returned (.bool true) ∧ Below w.heap.size w w' := by
  unfold maxLen at hma
  obtain ⟨m, hm'⟩ : ∃ m, acts.length = m := ⟨_, rfl⟩
  rw [hm'] at hma ⊢
  have HM : Hid (acts.length = m) := hm'
  have HA : Hid (Acts w.heap.size w sa acts) := ha
  clear hm' ha
  by_cases hbig : 300 < m
  · go_enter Tryd.func3, Tryd.ntmps3
    go_wp2_with (first | (go_at_call 4; refine (lives_any _).mono ?_; rintro e w1 ⟨rfl, hB⟩))
    go_ret
    exact ⟨rfl, hB⟩
  · obtain ⟨B, hB0⟩ : ∃ B, w.heap.size = B := ⟨_, rfl⟩
    have hN := qnew_any w
    rw [hB0] at hN HA ⊢
    have HB0 : Hid (w.heap.size = B) := hB0
    clear hB0
    obtain ⟨p, hp⟩ : ∃ p, B + 1 = p := ⟨_, rfl⟩
    rw [hp] at hN
    clear hp
    go_enter Tryd.func3, Tryd.ntmps3
    go_wp2_with (first
      | (go_at_call 6; refine (knew_any w0 B M.le).mono ?_; rintro e w1 ⟨rfl, k1, m1⟩; have K1 : Hid (Qu B w1 p [] ∧ KR B w1 w0.heap.size []) := ⟨Q0.out.below m1, k1⟩; have M1 : Far B w w1 := M.low m1; clear k1 m1)
      | (go_at_call 5; refine hN.mono ?_; rintro e w0 ⟨rfl, q0, m0⟩; have Q0 : Hid (Qu B w0 p []) := q0; have M : Far B w w0 := ⟨m0, by have := m0.size; have := HB0.out; omega⟩; clear q0 m0))
    have HP0 : Hid (PS B w (w1.alloc (.cells (bk 0 (.slice none 0 0)) 37)) p w0.heap.size w1.heap.size 0 (.slice none 0 0) [] [] []) := by
      have hbb := alloc_below w1 (.cells (bk 0 (.slice none 0 0)) 37)
      exact ⟨K1.out.1.below hbb, K1.out.2.below hbb, Bk.start M1.le, ⟨fun j e he => by simp at he, fun j k e f _ he => by simp at he, fun j e he => by simp at he, fun j e he => by simp at he⟩, M1.low hbb, rfl⟩
    clear K1 M1 Q0 M
    generalize w1.heap.size = K at *
    generalize w0.heap.size = q at *
    go_loopg [6] m (fun gk s6 wx => ∃ (i nb : Nat) (v : Value) (E : List Ent) (xs : List (Int × Int)), i + gk = m ∧ nb = i ∧ s6 = .int .i64 (i : Int) ∧ Hid (PS B w wx p q K nb v E xs xs) ∧ Hid (Good xs ∧ xs.length ≤ i))
    case atStart => exact ⟨0, 0, _, _, _, by omega, rfl, rfl, HP0, Good.nil, by simp⟩
    case round =>
      clear HP0
      obtain ⟨i, nb, v, E, xs, hig, hnb, rfl, HT, HG⟩ := hrel
      cases gk with
      | zero =>
        obtain rfl : i = m := by omega
        have hlt : ¬ ((i : Int) < i) := by omega
        go_wp2_with (first
          | (go_at_call 4; refine (lives_any _).mono ?_; rintro e w3 ⟨rfl, m3⟩; have HF : Hid (Far B w w3) := M2.out.low m3; clear m3)
          | (go_at_call 19; refine (apart_yes HT.out.book HT.out.lists).mono ?_; rintro e w2 ⟨rfl, hd2⟩; have M2 : Hid (Far B w w2) := ⟨HT.out.far.low'.trans hd2, Nat.le_trans HT.out.far.le hd2.size⟩; clear hd2))
        go_ret
        exact ⟨rfl, HF.out.low'⟩
      | succ g' =>
        have hlt : (i : Int) < m := by omega
        have hbi : i < 300 := by omega
        obtain ⟨⟨k, y, t⟩, hx⟩ : ∃ x, acts[i]? = some x := ⟨_, List.getElem?_eq_getElem (by rw [HM.out]; omega)⟩
        obtain ⟨b, off, rfl, hbl, hc⟩ := (HA.out.below HT.out.far.low').spot (by rw [HM.out]; omega)
        obtain ⟨y0, y1, y2⟩ := hc i _ hx
        obtain ⟨hk, _, _⟩ := HA.out.wf i _ hx
        simp only at y0 y1 y2 hk
        clear hc hx
        have hb0 := alloc_below wr (.cells #[.int .u8 k, .int .i64 y, .int .i64 t] 39)
        have HXX : Hid ((wr.alloc (.cells #[.int .u8 k, .int .i64 y, .int .i64 t] 39)).heap[wr.heap.size]? = some (.cells #[.int .u8 k, .int .i64 y, .int .i64 t] 39 (0, 0))) := alloc_at wr _
        have H4 : Hid (PS B w (wr.alloc (.cells #[.int .u8 k, .int .i64 y, .int .i64 t] 39)) p q K nb v E xs xs) := HT.out.below hb0
        have haq : wr.heap.size ≠ q := by
          obtain ⟨u, hU⟩ := HT.out.ref
          have := at_lt hU.head
          omega
        have htm : k.tmod 4 = k % 4 := Int.tmod_eq_emod_of_nonneg hk.1
        obtain ⟨tt, htt⟩ : ∃ tt, k % 4 = tt := ⟨_, rfl⟩
        rw [htt] at htm
        have HTT : Hid (k % 4 = tt) := htt
        have ht4 : 0 ≤ tt ∧ tt < 4 := by omega
        have HGY : Hid (Good (doX xs (k, y, t)) ∧ (doX xs (k, y, t)).length ≤ i + 1) := ⟨HG.out.1.does _, by have := doX_len xs (k, y, t); have := HG.out.2; omega⟩
        have HLX : Hid (xs.length < 1000) := by show _ < _; have := HG.out.2; omega
        clear hb0 htt
        by_cases t2 : tt = 2
        · have e2 : doX xs (k, y, t) = gone xs y := by unfold doX; simp only; have := HTT.out; rw [if_pos (by omega)]
          rw [e2] at HGY
          have HQ : Hid (∀ w', Qu B w' p xs → B ≤ w'.heap.size → Calls Tryd.prog 7 #[.pointer (some ⟨p, 0, none⟩), .int .i64 y] w' fun e w'' => e = .returned (.int .i64 (remE xs y)) ∧ Qu B w'' p (gone xs y) ∧ Ln B w' w'') := fun w' h' hB' => qremove_any h' y hB'
          have HKC : Hid (∀ w', KR B w' q xs → B ≤ w'.heap.size → Calls Tryd.prog 8 #[.pointer (some ⟨q, 0, none⟩), .int .i64 y] w' fun e w'' => e = .returned (.int .i64 (remE xs y)) ∧ KR B w'' q (gone xs y) ∧ Buts [q] w' w'') := fun w' h' hB' => kremove_any h' hB' y
          subst t2
          clear e2 HTT HG HLX
          generalize remE xs y = ev at *
          generalize gone xs y = Y at *
          have hxw4 : Hid ((wr.alloc (.cells #[.int .u8 k, .int .i64 y, .int .i64 t] 39)).heap[wr.heap.size]? = some (.cells #[.int .u8 k, .int .i64 y, .int .i64 t] 39 (0, 0))) := HXX.out
          clear HT
          obtain ⟨zs, hzs⟩ : ∃ zs, keys Y = zs := ⟨_, rfl⟩
          obtain ⟨c, hcl⟩ : ∃ c, Y.length = c := ⟨_, rfl⟩
          have HCL : Hid (zs.length = c) := by show _ = _; rw [← hzs, keys_len, hcl]
          have hcn : c ≤ 300 := by have := HGY.out.2; omega
          have HC1 : Hid (∀ w', Qu B w' p Y → Calls Tryd.prog 14 #[.pointer (some ⟨p, 0, none⟩)] w' fun e w'' => e = .returned (.tuple #[.int .i64 (fsv Y), .bool (fsb Y)]) ∧ w' = w'') := fun w' h' => qfirst_any h'
          have HC2 : Hid (∀ w', KR B w' q Y → Calls Tryd.prog 15 #[.pointer (some ⟨q, 0, none⟩)] w' fun e w'' => e = .returned (.tuple #[.int .i64 (fsv Y), .bool (fsb Y)]) ∧ w' = w'') := fun w' h' => kfirst_any h'
          have HC5 : Hid (∀ w', Qu B w' p Y → Calls Tryd.prog 13 #[.pointer (some ⟨p, 0, none⟩)] w' fun e w'' => ∃ sp cap, e = .returned (.slice sp c cap) ∧ w''.ownsRow w'.heap.size 3 1 (.slice sp c cap) c (zs.map (Value.int .i64)) ∧ Src w'' sp zs ∧ Below w'.heap.size w' w'') := fun w' h' => qlist_any h' hcl hzs
          have HC6 : Hid (∀ w', KR B w' q Y → Calls Tryd.prog 17 #[.pointer (some ⟨q, 0, none⟩)] w' fun e w'' => ∃ sp cap, e = .returned (.slice sp c cap) ∧ Src w'' sp zs ∧ Below w'.heap.size w' w'') := fun w' h' => klist_any h' hcl hzs
          clear hzs hcl
          generalize fsv Y = fv at *
          generalize fsb Y = fb at *
          have hee : (ev == ev) = true := by simp
          have hff : (fv == fv) = true := by simp
          have hbb2 : (fb == fb) = true := by simp
          go_wp2_with (first
            | (go_at_call 7; refine (HQ.out _ H4.out.que H4.out.far.le).mono ?_; rintro e w5 ⟨rfl, q5, m5⟩; have hxw5 : Hid (w5.heap[wr.heap.size]? = some (.cells #[.int .u8 k, .int .i64 y, .int .i64 t] 39 (0, 0))) := (m5.oth _ _ _ _ hxw4.out (by decide)).trans hxw4.out; have xx1w5 : w5.cell? ⟨wr.heap.size, 1, none⟩ = some (.int .i64 y) := (by rw [cell_of hxw5.out]; rfl); have xx2w5 : w5.cell? ⟨wr.heap.size, 2, none⟩ = some (.int .i64 t) := (by rw [cell_of hxw5.out]; rfl); have H5 : Hid (PS B w w5 p q K nb v E Y xs) := H4.out.setQ m5 q5; clear q5 m5 H4)
            | (go_at_call 8; refine (HKC.out _ H5.out.ref H5.out.far.le).mono ?_; rintro e w6 ⟨rfl, k6, m6⟩; have H6 : Hid (PS B w w6 p q K nb v E Y Y) := H5.out.setK m6 k6; clear k6 m6 H5)
            | (go_at_call 13; refine (HC5.out _ H6.out.que).mono ?_; rintro e w9 ⟨sp9, c9, rfl, o9, r9, m9⟩; have HF9 : Hid (Fresh E (.slice sp9 c c9)) := H6.out.fresh o9; have HO9 : Hid (w9.ownsRow B 3 1 (.slice sp9 c c9) c (zs.map (Value.int .i64)) ∧ Src w9 sp9 zs) := ⟨owns_base o9 H6.out.far.le, r9⟩; have H9 : Hid (PS B w w9 p q K nb v E Y Y) := H6.out.below m9; clear o9 r9 m9 H6)
            | (go_at_call 14; refine (HC1.out _ H9.out.que).mono ?_; rintro e wx ⟨rfl, hwx⟩; obtain rfl := hwx)
            | (go_at_call 15; refine (HC2.out _ H9.out.ref).mono ?_; rintro e wx ⟨rfl, hwx⟩; obtain rfl := hwx)
            | (go_at_call 17; refine (HC6.out _ H9.out.ref).mono ?_; rintro e w10 ⟨sp10, c10, rfl, r10, m10⟩; have HO10 : Hid (w10.ownsRow B 3 1 (.slice sp9 c c9) c (zs.map (Value.int .i64)) ∧ Src w10 sp9 zs ∧ Src w10 sp10 zs) := ⟨owns_below HO9.out.1 m10, HO9.out.2.below m10, r10⟩; have H10 : Hid (PS B w w10 p q K nb v E Y Y) := H9.out.below m10; clear r10 m10)
            | (go_at_call 16; refine (same_is HO10.out.2.1 HO10.out.2.2 HCL.out (by omega) _ _).mono ?_; rintro e w11 ⟨rfl, m11⟩; have HO11 : Hid (w11.ownsRow B 3 1 (.slice sp9 c c9) c (zs.map (Value.int .i64))) := owns_below HO10.out.1 m11; have H11 : Hid (PS B w w11 p q K nb v E Y Y) := H10.out.below m11; clear m11)
            | (go_at_call 18; refine (book_put H11.out.book (by rw [H11.out.many]; omega) (by omega) _ _ _).mono ?_; rintro e w12 ⟨rfl, v12, k12, u12⟩; have H12 : Hid (PS B w w12 p q K (nb + 1) v12 _ Y Y) := H11.out.put (by omega) (by omega) HO11.out HF9.out k12 u12; clear k12 u12))
          go_roundg g'
          case measure => omega
          case rel => exact ⟨i + 1, nb + 1, _, _, _, by omega, by omega, by go_num, H12, HGY⟩
        · by_cases t3 : tt = 3
          · have e2 : doX xs (k, y, t) = chL xs y t := by unfold doX; simp only; have := HTT.out; rw [if_neg (by omega), if_pos (by omega)]
            rw [e2] at HGY
            have HQ : Hid (∀ w', Qu B w' p xs → B ≤ w'.heap.size → Calls Tryd.prog 9 #[.pointer (some ⟨p, 0, none⟩), .int .i64 y, .int .i64 t] w' fun e w'' => e = .returned (.int .i64 (chE xs y t)) ∧ Qu B w'' p (chL xs y t) ∧ Ln B w' w'') := fun w' h' hB' => qchange_any h' y t hB'
            have HKC : Hid (∀ w', KR B w' q xs → B ≤ w'.heap.size → Calls Tryd.prog 10 #[.pointer (some ⟨q, 0, none⟩), .int .i64 y, .int .i64 t] w' fun e w'' => e = .returned (.int .i64 (chE xs y t)) ∧ KR B w'' q (chL xs y t) ∧ Buts [q] w' w'') := fun w' h' hB' => kchange_any h' HG.out.1 hB' y t
            subst t3
            clear e2 HTT HG HLX
            generalize chE xs y t = ev at *
            generalize chL xs y t = Y at *
            have hxw4 : Hid ((wr.alloc (.cells #[.int .u8 k, .int .i64 y, .int .i64 t] 39)).heap[wr.heap.size]? = some (.cells #[.int .u8 k, .int .i64 y, .int .i64 t] 39 (0, 0))) := HXX.out
            clear HT
            obtain ⟨zs, hzs⟩ : ∃ zs, keys Y = zs := ⟨_, rfl⟩
            obtain ⟨c, hcl⟩ : ∃ c, Y.length = c := ⟨_, rfl⟩
            have HCL : Hid (zs.length = c) := by show _ = _; rw [← hzs, keys_len, hcl]
            have hcn : c ≤ 300 := by have := HGY.out.2; omega
            have HC1 : Hid (∀ w', Qu B w' p Y → Calls Tryd.prog 14 #[.pointer (some ⟨p, 0, none⟩)] w' fun e w'' => e = .returned (.tuple #[.int .i64 (fsv Y), .bool (fsb Y)]) ∧ w' = w'') := fun w' h' => qfirst_any h'
            have HC2 : Hid (∀ w', KR B w' q Y → Calls Tryd.prog 15 #[.pointer (some ⟨q, 0, none⟩)] w' fun e w'' => e = .returned (.tuple #[.int .i64 (fsv Y), .bool (fsb Y)]) ∧ w' = w'') := fun w' h' => kfirst_any h'
            have HC5 : Hid (∀ w', Qu B w' p Y → Calls Tryd.prog 13 #[.pointer (some ⟨p, 0, none⟩)] w' fun e w'' => ∃ sp cap, e = .returned (.slice sp c cap) ∧ w''.ownsRow w'.heap.size 3 1 (.slice sp c cap) c (zs.map (Value.int .i64)) ∧ Src w'' sp zs ∧ Below w'.heap.size w' w'') := fun w' h' => qlist_any h' hcl hzs
            have HC6 : Hid (∀ w', KR B w' q Y → Calls Tryd.prog 17 #[.pointer (some ⟨q, 0, none⟩)] w' fun e w'' => ∃ sp cap, e = .returned (.slice sp c cap) ∧ Src w'' sp zs ∧ Below w'.heap.size w' w'') := fun w' h' => klist_any h' hcl hzs
            clear hzs hcl
            generalize fsv Y = fv at *
            generalize fsb Y = fb at *
            have hee : (ev == ev) = true := by simp
            have hff : (fv == fv) = true := by simp
            have hbb2 : (fb == fb) = true := by simp
            go_wp2_with (first
              | (go_at_call 9; refine (HQ.out _ H4.out.que H4.out.far.le).mono ?_; rintro e w5 ⟨rfl, q5, m5⟩; have hxw5 : Hid (w5.heap[wr.heap.size]? = some (.cells #[.int .u8 k, .int .i64 y, .int .i64 t] 39 (0, 0))) := (m5.oth _ _ _ _ hxw4.out (by decide)).trans hxw4.out; have xx1w5 : w5.cell? ⟨wr.heap.size, 1, none⟩ = some (.int .i64 y) := (by rw [cell_of hxw5.out]; rfl); have xx2w5 : w5.cell? ⟨wr.heap.size, 2, none⟩ = some (.int .i64 t) := (by rw [cell_of hxw5.out]; rfl); have H5 : Hid (PS B w w5 p q K nb v E Y xs) := H4.out.setQ m5 q5; clear q5 m5 H4)
              | (go_at_call 10; refine (HKC.out _ H5.out.ref H5.out.far.le).mono ?_; rintro e w6 ⟨rfl, k6, m6⟩; have H6 : Hid (PS B w w6 p q K nb v E Y Y) := H5.out.setK m6 k6; clear k6 m6 H5)
              | (go_at_call 13; refine (HC5.out _ H6.out.que).mono ?_; rintro e w9 ⟨sp9, c9, rfl, o9, r9, m9⟩; have HF9 : Hid (Fresh E (.slice sp9 c c9)) := H6.out.fresh o9; have HO9 : Hid (w9.ownsRow B 3 1 (.slice sp9 c c9) c (zs.map (Value.int .i64)) ∧ Src w9 sp9 zs) := ⟨owns_base o9 H6.out.far.le, r9⟩; have H9 : Hid (PS B w w9 p q K nb v E Y Y) := H6.out.below m9; clear o9 r9 m9 H6)
              | (go_at_call 14; refine (HC1.out _ H9.out.que).mono ?_; rintro e wx ⟨rfl, hwx⟩; obtain rfl := hwx)
              | (go_at_call 15; refine (HC2.out _ H9.out.ref).mono ?_; rintro e wx ⟨rfl, hwx⟩; obtain rfl := hwx)
              | (go_at_call 17; refine (HC6.out _ H9.out.ref).mono ?_; rintro e w10 ⟨sp10, c10, rfl, r10, m10⟩; have HO10 : Hid (w10.ownsRow B 3 1 (.slice sp9 c c9) c (zs.map (Value.int .i64)) ∧ Src w10 sp9 zs ∧ Src w10 sp10 zs) := ⟨owns_below HO9.out.1 m10, HO9.out.2.below m10, r10⟩; have H10 : Hid (PS B w w10 p q K nb v E Y Y) := H9.out.below m10; clear r10 m10)
              | (go_at_call 16; refine (same_is HO10.out.2.1 HO10.out.2.2 HCL.out (by omega) _ _).mono ?_; rintro e w11 ⟨rfl, m11⟩; have HO11 : Hid (w11.ownsRow B 3 1 (.slice sp9 c c9) c (zs.map (Value.int .i64))) := owns_below HO10.out.1 m11; have H11 : Hid (PS B w w11 p q K nb v E Y Y) := H10.out.below m11; clear m11)
              | (go_at_call 18; refine (book_put H11.out.book (by rw [H11.out.many]; omega) (by omega) _ _ _).mono ?_; rintro e w12 ⟨rfl, v12, k12, u12⟩; have H12 : Hid (PS B w w12 p q K (nb + 1) v12 _ Y Y) := H11.out.put (by omega) (by omega) HO11.out HF9.out k12 u12; clear k12 u12))
            go_roundg g'
            case measure => omega
            case rel => exact ⟨i + 1, nb + 1, _, _, _, by omega, by omega, by go_num, H12, HGY⟩
          · have e2 : doX xs (k, y, t) = putL xs y t := by unfold doX; simp only; have := HTT.out; rw [if_neg (by omega), if_neg (by omega)]
            rw [e2] at HGY
            have HQ : Hid (∀ w', Qu B w' p xs → B ≤ w'.heap.size → Calls Tryd.prog 11 #[.pointer (some ⟨p, 0, none⟩), .int .i64 y, .int .i64 t] w' fun e w'' => e = .returned (.int .i64 (putE xs y t)) ∧ Qu B w'' p (putL xs y t) ∧ Ln B w' w'') := fun w' h' hB' => qput_any h' HLX.out y t hB'
            have HKC : Hid (∀ w', KR B w' q xs → B ≤ w'.heap.size → Calls Tryd.prog 12 #[.pointer (some ⟨q, 0, none⟩), .int .i64 y, .int .i64 t] w' fun e w'' => e = .returned (.int .i64 (putE xs y t)) ∧ KR B w'' q (putL xs y t) ∧ Buts [q] w' w'') := fun w' h' hB' => kput_any h' hB' HLX.out y t
            have u2 : (tt == 2) = false := by simpa using t2
            have u3 : (tt == 3) = false := by simpa using t3
            clear e2 HTT HG HLX
            generalize putE xs y t = ev at *
            generalize putL xs y t = Y at *
            have hxw4 : Hid ((wr.alloc (.cells #[.int .u8 k, .int .i64 y, .int .i64 t] 39)).heap[wr.heap.size]? = some (.cells #[.int .u8 k, .int .i64 y, .int .i64 t] 39 (0, 0))) := HXX.out
            clear HT
            obtain ⟨zs, hzs⟩ : ∃ zs, keys Y = zs := ⟨_, rfl⟩
            obtain ⟨c, hcl⟩ : ∃ c, Y.length = c := ⟨_, rfl⟩
            have HCL : Hid (zs.length = c) := by show _ = _; rw [← hzs, keys_len, hcl]
            have hcn : c ≤ 300 := by have := HGY.out.2; omega
            have HC1 : Hid (∀ w', Qu B w' p Y → Calls Tryd.prog 14 #[.pointer (some ⟨p, 0, none⟩)] w' fun e w'' => e = .returned (.tuple #[.int .i64 (fsv Y), .bool (fsb Y)]) ∧ w' = w'') := fun w' h' => qfirst_any h'
            have HC2 : Hid (∀ w', KR B w' q Y → Calls Tryd.prog 15 #[.pointer (some ⟨q, 0, none⟩)] w' fun e w'' => e = .returned (.tuple #[.int .i64 (fsv Y), .bool (fsb Y)]) ∧ w' = w'') := fun w' h' => kfirst_any h'
            have HC5 : Hid (∀ w', Qu B w' p Y → Calls Tryd.prog 13 #[.pointer (some ⟨p, 0, none⟩)] w' fun e w'' => ∃ sp cap, e = .returned (.slice sp c cap) ∧ w''.ownsRow w'.heap.size 3 1 (.slice sp c cap) c (zs.map (Value.int .i64)) ∧ Src w'' sp zs ∧ Below w'.heap.size w' w'') := fun w' h' => qlist_any h' hcl hzs
            have HC6 : Hid (∀ w', KR B w' q Y → Calls Tryd.prog 17 #[.pointer (some ⟨q, 0, none⟩)] w' fun e w'' => ∃ sp cap, e = .returned (.slice sp c cap) ∧ Src w'' sp zs ∧ Below w'.heap.size w' w'') := fun w' h' => klist_any h' hcl hzs
            clear hzs hcl
            generalize fsv Y = fv at *
            generalize fsb Y = fb at *
            have hee : (ev == ev) = true := by simp
            have hff : (fv == fv) = true := by simp
            have hbb2 : (fb == fb) = true := by simp
            go_wp2_with (first
              | (go_at_call 11; refine (HQ.out _ H4.out.que H4.out.far.le).mono ?_; rintro e w5 ⟨rfl, q5, m5⟩; have hxw5 : Hid (w5.heap[wr.heap.size]? = some (.cells #[.int .u8 k, .int .i64 y, .int .i64 t] 39 (0, 0))) := (m5.oth _ _ _ _ hxw4.out (by decide)).trans hxw4.out; have xx1w5 : w5.cell? ⟨wr.heap.size, 1, none⟩ = some (.int .i64 y) := (by rw [cell_of hxw5.out]; rfl); have xx2w5 : w5.cell? ⟨wr.heap.size, 2, none⟩ = some (.int .i64 t) := (by rw [cell_of hxw5.out]; rfl); have H5 : Hid (PS B w w5 p q K nb v E Y xs) := H4.out.setQ m5 q5; clear q5 m5 H4)
              | (go_at_call 12; refine (HKC.out _ H5.out.ref H5.out.far.le).mono ?_; rintro e w6 ⟨rfl, k6, m6⟩; have H6 : Hid (PS B w w6 p q K nb v E Y Y) := H5.out.setK m6 k6; clear k6 m6 H5)
              | (go_at_call 13; refine (HC5.out _ H6.out.que).mono ?_; rintro e w9 ⟨sp9, c9, rfl, o9, r9, m9⟩; have HF9 : Hid (Fresh E (.slice sp9 c c9)) := H6.out.fresh o9; have HO9 : Hid (w9.ownsRow B 3 1 (.slice sp9 c c9) c (zs.map (Value.int .i64)) ∧ Src w9 sp9 zs) := ⟨owns_base o9 H6.out.far.le, r9⟩; have H9 : Hid (PS B w w9 p q K nb v E Y Y) := H6.out.below m9; clear o9 r9 m9 H6)
              | (go_at_call 14; refine (HC1.out _ H9.out.que).mono ?_; rintro e wx ⟨rfl, hwx⟩; obtain rfl := hwx)
              | (go_at_call 15; refine (HC2.out _ H9.out.ref).mono ?_; rintro e wx ⟨rfl, hwx⟩; obtain rfl := hwx)
              | (go_at_call 17; refine (HC6.out _ H9.out.ref).mono ?_; rintro e w10 ⟨sp10, c10, rfl, r10, m10⟩; have HO10 : Hid (w10.ownsRow B 3 1 (.slice sp9 c c9) c (zs.map (Value.int .i64)) ∧ Src w10 sp9 zs ∧ Src w10 sp10 zs) := ⟨owns_below HO9.out.1 m10, HO9.out.2.below m10, r10⟩; have H10 : Hid (PS B w w10 p q K nb v E Y Y) := H9.out.below m10; clear r10 m10)
              | (go_at_call 16; refine (same_is HO10.out.2.1 HO10.out.2.2 HCL.out (by omega) _ _).mono ?_; rintro e w11 ⟨rfl, m11⟩; have HO11 : Hid (w11.ownsRow B 3 1 (.slice sp9 c c9) c (zs.map (Value.int .i64))) := owns_below HO10.out.1 m11; have H11 : Hid (PS B w w11 p q K nb v E Y Y) := H10.out.below m11; clear m11)
              | (go_at_call 18; refine (book_put H11.out.book (by rw [H11.out.many]; omega) (by omega) _ _ _).mono ?_; rintro e w12 ⟨rfl, v12, k12, u12⟩; have H12 : Hid (PS B w w12 p q K (nb + 1) v12 _ Y Y) := H11.out.put (by omega) (by omega) HO11.out HF9.out k12 u12; clear k12 u12))
            go_roundg g'
            case measure => omega
            case rel => exact ⟨i + 1, nb + 1, _, _, _, by omega, by omega, by go_num, H12, HGY⟩
end Go.Proofs.YtmdhlgdikchhlaaDoor
