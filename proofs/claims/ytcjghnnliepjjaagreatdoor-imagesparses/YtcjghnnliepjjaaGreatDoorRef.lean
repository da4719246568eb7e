
/- The document's own answer: whether an instruction may be, and its bytes. -/
import Derived.Test.YtcjghnnliepjjaaGreatDoorTwin
namespace Go.Proofs.YtcjghnnliepjjaaGreatDoor
open Go Go.RowKit
set_option maxRecDepth 100000
def wordCells : Array Value := (fWords.map Value.string).toArray
def fieldCells : Array Value := (fFields.map Value.string).toArray
set_option maxHeartbeats 4000000 in
theorem words_any (w : World) : Calls Tryz.prog 78 #[] w fun e w' => e = .returned (.slice (some ⟨w.heap.size, 0, none⟩) 23 23) ∧ w' = w.alloc (.cells wordCells 9) := by
  go_enter Tryz.func78, Tryz.ntmps78
  go_wp2
  go_ret
  exact ⟨rfl, rfl⟩
set_option maxHeartbeats 4000000 in
theorem fields_any (w : World) : Calls Tryz.prog 79 #[] w fun e w' => e = .returned (.slice (some ⟨w.heap.size, 0, none⟩) 23 23) ∧ w' = w.alloc (.cells fieldCells 9) := by
  go_enter Tryz.func79, Tryz.ntmps79
  go_wp2
  go_ret
  exact ⟨rfl, rfl⟩
theorem alloc_cell {w : World} {cs : Array Value} {t : TypeId} {i : Nat} {v : Value} (h : cs[i]? = some v) : (w.alloc (.cells cs t)).cell? ⟨w.heap.size, i, none⟩ = some v := by
  simp [go_sem, h]
def kChar (k : Nat) : UInt8 := if k = 1 then 114 else if k = 2 then 98 else if k = 3 then 115 else if k = 4 then 110 else 119
theorem field_at (o : Nat) (ho : o < 23) : fieldCells[o]? = some (.string (fField o)) := by
  have hl : fFields.length = 23 := rfl
  unfold fieldCells fField
  rw [List.getElem?_toArray, List.getElem?_map, List.getD_eq_getElem?_getD, List.getElem?_eq_getElem (by rw [hl]; exact ho)]
  rfl
theorem word_at (o : Nat) (ho : o < 23) : wordCells[o]? = some (.string (fWord o)) := by
  have hl : fWords.length = 23 := rfl
  unfold wordCells fWord
  rw [List.getElem?_toArray, List.getElem?_map, List.getD_eq_getElem?_getD, List.getElem?_eq_getElem (by rw [hl]; exact ho)]
  rfl
theorem field_kinds_fin : ∀ o : Fin 23, (fField o.val).data.toList = (ksOf o.val).map kChar := by decide
theorem field_kinds (o : Nat) (ho : o < 23) : (fField o).data.toList = (ksOf o).map kChar := field_kinds_fin ⟨o, ho⟩
def chk : List Nat → List Int → Bool
  | [], bs => !bs.any (fun b => decide (b ≠ 0))
  | k :: ks, bs => kOk k (bs.getD 0 0) (bs.getD 1 0) && chk ks (bs.drop (kSz k))
theorem wrt_chk : ∀ (ks : List Nat) (bs : List Int) (acc : List ByteArray), (wrt ks bs acc).1 = chk ks bs
  | [], _, _ => rfl
  | k :: ks, bs, acc => by
    simp only [wrt, chk]
    split
    · rename_i h; rw [wrt_chk ks, h, Bool.true_and]
    · rename_i h; rw [show kOk k (bs.getD 0 0) (bs.getD 1 0) = false by simpa using h]; rfl
theorem kOk1 (x y : Int) (h0 : 0 ≤ x) (h1 : x ≤ 255) : kOk 1 x y = decide (x ≤ 7) := by
  unfold kOk kNum num1 kLeast kMost
  simp only [show (1 : Nat) ≠ 4 by decide, show (1 : Nat) ≠ 3 by decide, show (1 : Nat) ≠ 5 by decide, if_false, if_true]
  split <;> (rw [Bool.eq_iff_iff]; simp only [Bool.and_eq_true, decide_eq_true_eq]; omega)
theorem kOk2 (x y : Int) (h0 : 0 ≤ x) (h1 : x ≤ 255) : kOk 2 x y = true := by
  unfold kOk kNum num1 kLeast kMost
  simp only [show (2 : Nat) ≠ 1 by decide, show (2 : Nat) ≠ 4 by decide, show (2 : Nat) ≠ 3 by decide, show (2 : Nat) ≠ 5 by decide, if_false, if_true]
  split <;> (simp only [Bool.and_eq_true, decide_eq_true_eq]; omega)
theorem kOk3 (x y : Int) (h0 : 0 ≤ x) (h1 : x ≤ 255) : kOk 3 x y = true := by
  unfold kOk kNum num1 kLeast kMost
  simp only [show (3 : Nat) ≠ 1 by decide, show (3 : Nat) ≠ 4 by decide, show (3 : Nat) ≠ 2 by decide, if_false, if_true]
  split <;> (simp only [Bool.and_eq_true, decide_eq_true_eq]; omega)
theorem kOk4 (x y : Int) (h0 : 0 ≤ x) (h1 : x ≤ 255) (h2 : 0 ≤ y) (h3 : y ≤ 255) : kOk 4 x y = true := by
  unfold kOk kNum kLeast kMost
  simp only [show (4 : Nat) ≠ 1 by decide, show (4 : Nat) ≠ 2 by decide, show (4 : Nat) ≠ 3 by decide, show (4 : Nat) ≠ 5 by decide, if_false, if_true]
  simp only [Bool.and_eq_true, decide_eq_true_eq]; omega
theorem kOk5 (x y : Int) (h0 : 0 ≤ x) (h1 : x ≤ 255) : kOk 5 x y = (decide (1 ≤ x) && decide (x ≤ 20)) := by
  unfold kOk kNum num1 kLeast kMost
  simp only [show (5 : Nat) ≠ 1 by decide, show (5 : Nat) ≠ 2 by decide, show (5 : Nat) ≠ 3 by decide, show (5 : Nat) ≠ 4 by decide, if_false, if_true]
  split <;> (rw [Bool.eq_iff_iff]; try simp only [Bool.and_eq_true, decide_eq_true_eq]) <;> omega
theorem get_of {f : ByteArray} {i : Nat} {x : UInt8} (h : f.data.toList[i]? = some x) (hi : i < f.size) : f[i] = x := by
  have h2 : f.data[i]? = some x := by simpa using h
  rw [Array.getElem?_eq_some_iff] at h2
  obtain ⟨_, h2⟩ := h2
  exact h2
set_option maxHeartbeats 4000000 in
theorem refCheck_some (o : Nat) (ho : o < 23) (a b c : Int) (w : World) (ha : byte a) (hb : byte b) (hc : byte c) :
    Calls Tryz.prog 37 #[.agg #[.int .u8 o, .int .u8 a, .int .u8 b, .int .u8 c]] w fun e w' => e = .returned (.bool (chk (ksOf o) [a, b, c])) ∧ Below w.heap.size w w' := by
  have ho' : (o : Int) < 23 := by omega
  have hwr : Hid (IntKind.i64.wrap (o : Int) = (o : Int)) := by show _ = _; rw [IntKind.wrap_i64]; omega
  have hfa := field_at o ho
  go_enter Tryz.func37, Tryz.ntmps37
  go_wp2
  go_cut [12] (fun s12 wx => s12 = .bool false ∧ Below (w.heap.size + 1) (w.alloc (.cells #[.int .u8 o, .int .u8 a, .int .u8 b, .int .u8 c] 64)) wx)
  case first =>
    go_region_with (go_at_call 78; refine (words_any _).mono ?_; rintro e w1 ⟨rfl, rfl⟩)
    all_goals (go_wp2_with fail; go_meet)
    all_goals exact ⟨by simp [hwr.out, ho'], ((Below.refl _ _).drew.alloc (by simp) _)⟩
  case rest =>
    obtain ⟨rfl, hB⟩ := hcut
    obtain ⟨wb, hwb⟩ : ∃ x, x = wc := ⟨_, rfl⟩
    subst hwb
    have zb : w.heap.size < wb.heap.size := by have := hB.size; simp at this; omega
    have x0 : wb.cell? ⟨w.heap.size, 0, none⟩ = some (.int .u8 o) := by rw [(bcell hB).1 _ _ (by omega)]; simp [go_sem]
    have x1 : wb.cell? ⟨w.heap.size, 1, none⟩ = some (.int .u8 a) := by rw [(bcell hB).1 _ _ (by omega)]; simp [go_sem]
    have x2 : wb.cell? ⟨w.heap.size, 2, none⟩ = some (.int .u8 b) := by rw [(bcell hB).1 _ _ (by omega)]; simp [go_sem]
    have x3 : wb.cell? ⟨w.heap.size, 3, none⟩ = some (.int .u8 c) := by rw [(bcell hB).1 _ _ (by omega)]; simp [go_sem]
    go_wp2
    go_cut [4] (fun s4 wx => s4 = .string (fField o) ∧ Below (wb.heap.size + 1) (wb.alloc (.cells #[.int .u8 a, .int .u8 b, .int .u8 c] 5)) wx)
    case first =>
      go_region_with (go_at_call 79; refine (fields_any _).mono ?_; rintro e w1 ⟨rfl, rfl⟩)
      all_goals (go_wp2_with fail; go_meet)
      all_goals exact ⟨rfl, ((Below.refl _ _).drew.alloc (by simp) _)⟩
    case rest =>
      obtain ⟨rfl, hB2⟩ := hcut
      have hbw : Below w.heap.size w wc := (((Below.refl _ _).alloc (Nat.le_refl _) _).trans (hB.mono (by omega))).trans (((Below.refl _ _).alloc (Nat.le_refl _) _).trans (hB2.mono (by omega)) |>.mono (by omega))
      have HBW : Hid (Below w.heap.size w wc) := hbw
      have zc : wb.heap.size < wc.heap.size := by have := hB2.size; simp at this; omega
      have HC0 : Hid (∀ (i : Nat) (x : Int), ([a, b, c] : List Int)[i]? = some x → wc.cell? ⟨wb.heap.size, 0 + i, none⟩ = some (.int .u8 x)) := by
        intro i x hx
        rw [(bcell hB2).1 _ _ (by omega)]
        match i with
        | 0 => simp at hx; subst hx; simp [go_sem]
        | 1 => simp at hx; subst hx; simp [go_sem]
        | 2 => simp at hx; subst hx; simp [go_sem]
        | i + 3 => simp at hx
      have HF0 : Hid ((fField o).data.toList = (ksOf o).map kChar) := field_kinds o ho
      have HFIT : fit (ksOf o) 3 := fit_all o ho
      have HX : Hid (∀ (i : Nat) (x : Int), ([a, b, c] : List Int)[i]? = some x → 0 ≤ x ∧ x ≤ 255) := by
        intro i x hx
        match i with
        | 0 => simp at hx; subst hx; exact ha
        | 1 => simp at hx; subst hx; exact hb
        | 2 => simp at hx; subst hx; exact hc
        | i + 3 => simp at hx
      generalize fField o = f at HF0 ⊢
      have hn : f.size = (ksOf o).length := by have h := congrArg List.length HF0.out; rw [List.length_map] at h; rw [← h]; exact Array.length_toList.symm
      clear hbw hB hB2 x0 x1 x2 x3 zb hfa
      obtain ⟨n, hnn⟩ : ∃ n, (ksOf o).length = n := ⟨_, rfl⟩
      rw [hnn] at hn
      have hn3 : n ≤ 3 := by rw [← hnn]; exact fit_len HFIT
      go_wp2
      go_loopg [6, 5] n (fun g s6 s5 wx => ∃ (i p : Nat) (ks : List Nat) (bs : List Int), ks.length = g ∧ i + g = n ∧ s6 = .int .i64 i ∧ s5 = .int .i64 p ∧ p + bs.length = 3 ∧ wx = wc ∧
        Hid (∀ (j k : Nat), ks[j]? = some k → f.data.toList[i + j]? = some (kChar k)) ∧ fit ks bs.length ∧ Hid (∀ (i : Nat) (x : Int), bs[i]? = some x → 0 ≤ x ∧ x ≤ 255) ∧
        Hid (∀ (i : Nat) (x : Int), bs[i]? = some x → wc.cell? ⟨wb.heap.size, p + i, none⟩ = some (.int .u8 x)) ∧ Hid (chk ks bs = chk (ksOf o) [a, b, c]))
      case atStart => exact ⟨0, 0, ksOf o, [a, b, c], hnn, by omega, rfl, rfl, rfl, rfl, fun j k h => by rw [HF0.out, List.getElem?_map, Nat.zero_add, h]; rfl, HFIT, HX, HC0, rfl⟩
      case round =>
        obtain ⟨i, p, ks, bs, hkl, hig, rfl, rfl, hpb, rfl, HF, hft, HY, HC, HR⟩ := hrel
        cases gk with
        | zero =>
          have hks : ks = [] := List.eq_nil_of_length_eq_zero hkl
          subst hks
          have hlt : ¬ ((i : Int) < (n : Int)) := by omega
          have HR2 : Hid (chk [] bs = chk (ksOf o) [a, b, c]) := HR.out
          clear HR
          go_wp2
          go_loopg [5] bs.length (fun g s5 wx => ∃ (p : Nat) (bs : List Int), bs.length = g ∧ s5 = .int .i64 p ∧ p + bs.length = 3 ∧ wx = wr ∧
            Hid (∀ (i : Nat) (x : Int), bs[i]? = some x → wr.cell? ⟨wb.heap.size, p + i, none⟩ = some (.int .u8 x)) ∧ Hid (chk [] bs = chk (ksOf o) [a, b, c]))
          case atStart => exact ⟨p, bs, rfl, rfl, hpb, rfl, HC, HR2⟩
          case round =>
            clear HC HR2 hpb
            obtain ⟨p, bs, hbl, rfl, hpb, rfl, HC, HR2⟩ := hrel
            cases gk with
            | zero =>
              have hbs : bs = [] := List.eq_nil_of_length_eq_zero hbl
              subst hbs
              have hp3 : ¬ ((p : Int) < 3) := by simp at hpb; omega
              go_wp2
              go_ret
              exact ⟨by rw [← HR2.out]; rfl, HBW.out⟩
            | succ g =>
              obtain ⟨x, bs', rfl⟩ : ∃ x bs', bs = x :: bs' := by
                cases bs with
                | nil => simp at hbl
                | cons x bs' => exact ⟨x, bs', rfl⟩
              have hp3 : (p : Int) < 3 := by simp at hpb; omega
              have hcx := HC.out 0 x rfl
              simp only [Nat.add_zero] at hcx
              by_cases hx0 : x = 0
              · subst hx0
                go_wp2
                go_roundg g
                case measure => omega
                case rel =>
                  refine ⟨p + 1, bs', by simpa using hbl, by go_num, by simp at hpb; omega, rfl, ?_, ?_⟩
                  · intro i x hx
                    rw [show p + 1 + i = p + (i + 1) by omega]
                    exact HC.out (i + 1) x (by simpa using hx)
                  · show _ = _
                    rw [← HR2.out]
                    simp [chk]
              · go_wp2
                try rw [Exit.noGoto_ret]
                go_ret
                refine ⟨?_, HBW.out⟩
                rw [← HR2.out]
                simp [chk, hx0]
        | succ g =>
          obtain ⟨k, ks', rfl⟩ : ∃ k ks', ks = k :: ks' := by
            cases ks with
            | nil => simp at hkl
            | cons k ks' => exact ⟨k, ks', rfl⟩
          obtain ⟨hk1, hk5, hkn, hft'⟩ := hft
          have hkb := kSz_bd k
          have hlt : (i : Int) < (n : Int) := by omega
          obtain ⟨x, hx⟩ : ∃ x, bs[0]? = some x := ⟨_, List.getElem?_eq_getElem (by omega)⟩
          have hx0 : bs.getD 0 0 = x := by rw [List.getD_eq_getElem?_getD, hx]; rfl
          obtain ⟨y, hy⟩ : ∃ y, bs.getD 1 0 = y := ⟨_, rfl⟩
          obtain ⟨hxl, hxh⟩ := HY.out 0 x hx
          have hcx := HC.out 0 x hx
          simp only [Nat.add_zero] at hcx
          have hgt := HF.out 0 k rfl
          rw [Nat.add_zero] at hgt
          have hget : ∀ (h : i < f.size), f[i] = kChar k := fun h => get_of hgt h
          have hRR := HR.out
          simp only [chk, hx0, hy] at hRR
          have HRR : Hid ((kOk k x y && chk ks' (bs.drop (kSz k))) = chk (ksOf o) [a, b, c]) := hRR
          clear hRR HR hx0 hgt
          have hp3 : (p : Int) < 3 := by omega
          obtain rfl | rfl | rfl | rfl | rfl : k = 1 ∨ k = 2 ∨ k = 3 ∨ k = 4 ∨ k = 5 := by omega
          · have hget : ∀ (h : i < f.size), f[i] = 114 := hget
            by_cases hx7 : x ≤ 7
            · have HO : Hid (kOk 1 x y = true) := by show _ = _; rw [kOk1 x y hxl hxh]; simpa using hx7
              go_wp2
              go_roundg g
              case measure => omega
              case rel =>
                refine ⟨i + 1, p + 1, ks', bs.drop 1, by simpa using hkl, by omega, by go_num, by go_num, by rw [List.length_drop]; omega, rfl, ?_, by rw [List.length_drop]; exact hft', ?_, ?_, ?_⟩
                · intro j q hq; rw [show i + 1 + j = i + (j + 1) by omega]; exact HF.out (j + 1) q (by simpa using hq)
                · intro j x hx; rw [List.getElem?_drop] at hx; exact HY.out _ _ hx
                · intro j x hx; rw [List.getElem?_drop] at hx; rw [Nat.add_assoc]; exact HC.out _ _ hx
                · show _ = _; rw [← HRR.out, HO.out]; rfl
            · have HO : Hid (kOk 1 x y = false) := by show _ = _; rw [kOk1 x y hxl hxh]; simpa using hx7
              go_wp2
              try rw [Exit.noGoto_ret]
              go_ret
              exact ⟨by rw [← HRR.out, HO.out]; rfl, HBW.out⟩
          · have hget : ∀ (h : i < f.size), f[i] = 98 := hget
            have HO : Hid (kOk 2 x y = true) := kOk2 x y hxl hxh
            go_wp2
            go_roundg g
            case measure => omega
            case rel =>
              refine ⟨i + 1, p + 1, ks', bs.drop 1, by simpa using hkl, by omega, by go_num, by go_num, by rw [List.length_drop]; omega, rfl, ?_, by rw [List.length_drop]; exact hft', ?_, ?_, ?_⟩
              · intro j q hq; rw [show i + 1 + j = i + (j + 1) by omega]; exact HF.out (j + 1) q (by simpa using hq)
              · intro j x hx; rw [List.getElem?_drop] at hx; exact HY.out _ _ hx
              · intro j x hx; rw [List.getElem?_drop] at hx; rw [Nat.add_assoc]; exact HC.out _ _ hx
              · show _ = _; rw [← HRR.out, HO.out]; rfl
          · have hget : ∀ (h : i < f.size), f[i] = 115 := hget
            have HO : Hid (kOk 3 x y = true) := kOk3 x y hxl hxh
            go_wp2
            go_roundg g
            case measure => omega
            case rel =>
              refine ⟨i + 1, p + 1, ks', bs.drop 1, by simpa using hkl, by omega, by go_num, by go_num, by rw [List.length_drop]; omega, rfl, ?_, by rw [List.length_drop]; exact hft', ?_, ?_, ?_⟩
              · intro j q hq; rw [show i + 1 + j = i + (j + 1) by omega]; exact HF.out (j + 1) q (by simpa using hq)
              · intro j x hx; rw [List.getElem?_drop] at hx; exact HY.out _ _ hx
              · intro j x hx; rw [List.getElem?_drop] at hx; rw [Nat.add_assoc]; exact HC.out _ _ hx
              · show _ = _; rw [← HRR.out, HO.out]; rfl
          · have hget : ∀ (h : i < f.size), f[i] = 110 := hget
            have hb2 : 2 ≤ bs.length := hkn
            have hy1 : bs[1]? = some y := by
              rw [← hy, List.getD_eq_getElem?_getD, List.getElem?_eq_getElem (show 1 < bs.length by omega)]; rfl
            have HO : Hid (kOk 4 x y = true) := kOk4 x y hxl hxh (HY.out 1 y hy1).1 (HY.out 1 y hy1).2
            clear hy hy1
            go_wp2
            go_roundg g
            case measure => omega
            case rel =>
              refine ⟨i + 1, p + 2, ks', bs.drop 2, by simpa using hkl, by omega, by go_num, by go_num, by rw [List.length_drop]; omega, rfl, ?_, by rw [List.length_drop]; exact hft', ?_, ?_, ?_⟩
              · intro j q hq; rw [show i + 1 + j = i + (j + 1) by omega]; exact HF.out (j + 1) q (by simpa using hq)
              · intro j x hx; rw [List.getElem?_drop] at hx; exact HY.out _ _ hx
              · intro j x hx; rw [List.getElem?_drop] at hx; rw [Nat.add_assoc]; exact HC.out _ _ hx
              · show _ = _; rw [← HRR.out, HO.out]; rfl
          · have hget : ∀ (h : i < f.size), f[i] = 119 := hget
            by_cases hx1 : 1 ≤ x
            · by_cases hx20 : x ≤ 20
              · have HO : Hid (kOk 5 x y = true) := by show _ = _; rw [kOk5 x y hxl hxh]; simp [hx1, hx20]
                go_wp2
                go_roundg g
                case measure => omega
                case rel =>
                  refine ⟨i + 1, p + 1, ks', bs.drop 1, by simpa using hkl, by omega, by go_num, by go_num, by rw [List.length_drop]; omega, rfl, ?_, by rw [List.length_drop]; exact hft', ?_, ?_, ?_⟩
                  · intro j q hq; rw [show i + 1 + j = i + (j + 1) by omega]; exact HF.out (j + 1) q (by simpa using hq)
                  · intro j x hx; rw [List.getElem?_drop] at hx; exact HY.out _ _ hx
                  · intro j x hx; rw [List.getElem?_drop] at hx; rw [Nat.add_assoc]; exact HC.out _ _ hx
                  · show _ = _; rw [← HRR.out, HO.out]; rfl
              · have HO : Hid (kOk 5 x y = false) := by show _ = _; rw [kOk5 x y hxl hxh]; simp [hx20]
                go_wp2
                try rw [Exit.noGoto_ret]
                go_ret
                exact ⟨by rw [← HRR.out, HO.out]; rfl, HBW.out⟩
            · have HO : Hid (kOk 5 x y = false) := by show _ = _; rw [kOk5 x y hxl hxh]; simp [hx1]
              go_wp2
              try rw [Exit.noGoto_ret]
              go_ret
              exact ⟨by rw [← HRR.out, HO.out]; rfl, HBW.out⟩
set_option maxHeartbeats 4000000 in
theorem refCheck_none (o : Nat) (ho : 23 ≤ o) (h255 : o ≤ 255) (a b c : Int) (w : World) :
    Calls Tryz.prog 37 #[.agg #[.int .u8 o, .int .u8 a, .int .u8 b, .int .u8 c]] w fun e w' => e = .returned (.bool false) ∧ Below w.heap.size w w' := by
  have ho' : (23 : Int) ≤ o := by omega
  have ho2 : (o : Int) ≤ 255 := by omega
  have hwr : IntKind.i64.wrap (o : Int) = (o : Int) := by rw [IntKind.wrap_i64]; omega
  go_enter Tryz.func37, Tryz.ntmps37
  go_wp2
  go_cut [12] (fun s12 wx => s12 = .bool true ∧ Below (w.heap.size + 1) (w.alloc (.cells #[.int .u8 o, .int .u8 a, .int .u8 b, .int .u8 c] 64)) wx)
  case first =>
    go_region_with (go_at_call 78; refine (words_any _).mono ?_; rintro e w1 ⟨rfl, rfl⟩)
    all_goals (go_wp2_with fail; go_meet)
    all_goals exact ⟨by first | rfl | exact congrArg Value.bool (decide_eq_true ho') | exact congrArg Value.bool (decide_eq_true (by rw [hwr]; exact ho')), ((Below.refl _ _).drew.alloc (by simp) _)⟩
  case rest =>
    obtain ⟨rfl, hB⟩ := hcut
    go_wp2
    go_ret
    exact ⟨rfl, ((Below.refl _ _).alloc (Nat.le_refl _) _).trans (hB.mono (by omega))⟩
theorem refCheck_any (o : Nat) (h255 : o ≤ 255) (a b c : Int) (w : World) (ha : byte a) (hb : byte b) (hc : byte c) :
    Calls Tryz.prog 37 #[.agg #[.int .u8 o, .int .u8 a, .int .u8 b, .int .u8 c]] w fun e w' => e = .returned (.bool (may o a b c)) ∧ Below w.heap.size w w' := by
  by_cases ho : o < 23
  · refine (refCheck_some o ho a b c w ha hb hc).mono ?_
    rintro e w' ⟨rfl, h⟩
    exact ⟨by unfold may; rw [wrt_chk]; simp [ho], h⟩
  · refine (refCheck_none o (by omega) h255 a b c w).mono ?_
    rintro e w' ⟨rfl, h⟩
    exact ⟨by unfold may; simp [ho], h⟩
set_option maxHeartbeats 4000000 in
theorem Put_any (o a b c : Int) (w : World) : Calls Tryz.prog 32 #[.agg #[.int .u8 o, .int .u8 a, .int .u8 b, .int .u8 c]] w fun e w' => e = .returned (.agg #[.int .u8 o, .int .u8 a, .int .u8 b, .int .u8 c]) ∧ Below w.heap.size w w' := by
  go_enter Tryz.func32, Tryz.ntmps32
  go_wp2
  exact bodyPost_ret (v := .agg #[.int .u8 o, .int .u8 a, .int .u8 b, .int .u8 c]) (by simp [results, Tryz.results32, go_sem]) rfl ⟨rfl, ((Below.refl _ _).alloc (Nat.le_refl _) _).alloc (by simp) _⟩
set_option maxHeartbeats 4000000 in
theorem refPut_any (o a b c : Int) (w : World) : Calls Tryz.prog 34 #[.agg #[.int .u8 o, .int .u8 a, .int .u8 b, .int .u8 c]] w fun e w' => e = .returned (.agg #[.int .u8 o, .int .u8 a, .int .u8 b, .int .u8 c]) ∧ Below w.heap.size w w' := by
  go_enter Tryz.func34, Tryz.ntmps34
  go_wp2
  exact bodyPost_ret (v := .agg #[.int .u8 o, .int .u8 a, .int .u8 b, .int .u8 c]) (by simp [results, Tryz.results34, go_sem]) rfl ⟨rfl, ((Below.refl _ _).alloc (Nat.le_refl _) _).alloc (by simp) _⟩
end Go.Proofs.YtcjghnnliepjjaaGreatDoor
