/- The document's own text of an instruction. -/
import Derived.Test.YtdneldjnkkpmoaaDoorFieldWalk
namespace Go.Proofs.YtdneldjnkkpmoaaDoor
open Go Go.RowKit
set_option maxRecDepth 100000
set_option linter.unusedVariables false
set_option linter.unusedSimpArgs false
theorem bsz (c : UInt8) : (⟨#[c]⟩ : ByteArray).size = 1 := rfl
def joinB (acc : List ByteArray) : ByteArray := mk (jn (acc.map (·.data.toList)))
theorem join_next (acc : List ByteArray) (h : acc ≠ []) (t : ByteArray) (l : List UInt8) (ht : t.data.toList = l) : joinB (acc ++ [t]) = mk ((joinB acc).data.toList ++ 32 :: l) := by
  unfold joinB
  rw [List.map_append, List.map_singleton, jn_snoc _ _ (by simpa using h), ht, mk_data]
theorem glue1 (S d : ByteArray) : S ++ ⟨#[32]⟩ ++ d = mk (S.data.toList ++ 32 :: d.data.toList) := by
  rw [← data_mk (S ++ ⟨#[32]⟩ ++ d), ba_append, ba_append]; simp
theorem glue2 (S d : ByteArray) (c : UInt8) : S ++ ⟨#[32]⟩ ++ ⟨#[c]⟩ ++ d = mk (S.data.toList ++ 32 :: c :: d.data.toList) := by
  rw [← data_mk (S ++ ⟨#[32]⟩ ++ ⟨#[c]⟩ ++ d), ba_append, ba_append, ba_append]; simp
theorem kt1 (x : Nat) (y : Int) (h : x ≤ 7) : (kText 1 x y).data.toList = 114 :: Lib.decDigits x := by
  rw [kText_data, mark_one, show kNum 1 x y = (x : Int) by unfold kNum num1 kMost; simp; omega, itoa_pos _ (by omega), Int.toNat_natCast]; rfl
theorem kt2 (x : Nat) (y : Int) (h : x ≤ 255) : (kText 2 x y).data.toList = Lib.decDigits x := by
  rw [kText_data, mark_one, show kNum 2 x y = (x : Int) by unfold kNum num1 kMost; simp; omega, itoa_pos _ (by omega), Int.toNat_natCast]; rfl
theorem kt5 (x : Nat) (y : Int) (h : x ≤ 20) : (kText 5 x y).data.toList = Lib.decDigits x := by
  rw [kText_data, mark_one, show kNum 5 x y = (x : Int) by unfold kNum num1 kMost; simp; omega, itoa_pos _ (by omega), Int.toNat_natCast]; rfl
theorem kt3 (x : Nat) (y : Int) (h : x ≤ 127) : (kText 3 x y).data.toList = Lib.decDigits x := by
  rw [kText_data, mark_one, show kNum 3 x y = (x : Int) by unfold kNum num1 kMost; simp; omega, itoa_pos _ (by omega), Int.toNat_natCast]; rfl
theorem kt3n (x : Nat) (y : Int) (h : 128 ≤ x) (h2 : x ≤ 255) : (kText 3 x y).data.toList = 45 :: Lib.decDigits (256 - x) := by
  rw [kText_data, mark_one, show kNum 3 x y = (x : Int) - 256 by unfold kNum num1 kMost; simp; omega, itoa_neg _ (by omega), show (-((x : Int) - 256)).toNat = 256 - x by omega]; rfl
theorem kt4 (x y : Nat) : (kText 4 x y).data.toList = Lib.decDigits (256 * x + y) := by
  rw [kText_data, mark_one, show kNum 4 x y = ((256 * x + y : Nat) : Int) by unfold kNum; simp; omega, itoa_pos _ (by omega), Int.toNat_natCast]; rfl
theorem dig_size (n : Nat) (h : n < 100000) : (mk (Lib.decDigits n)).size ≤ 5 := by rw [mk_size]; exact decDigits_len n h
set_option maxHeartbeats 1000000 in
theorem refText_no (o : Nat) (h255 : o ≤ 255) (a b c : Int) (w : World) (ha : byte a) (hb : byte b) (hc : byte c) (hm : may o a b c = false) :
    Calls Tryd.prog 17 #[.agg #[.int .u8 o, .int .u8 a, .int .u8 b, .int .u8 c]] w fun e w' => e = .returned (.tuple #[.string ⟨#[]⟩, .int .i64 1]) ∧ Below w.heap.size w w' := by
  go_enter Tryd.func17, Tryd.ntmps17
  go_wp2_with (go_at_call 12; refine (refCheck_any _ h255 _ _ _ _ ha hb hc).mono ?_; rintro e w' ⟨rfl, hb2⟩)
  go_ret2
  exact ⟨rfl, ((Below.refl _ _).alloc (Nat.le_refl _) _).trans (hb2.mono (by simp))⟩
set_option maxHeartbeats 4000000 in
theorem refText_yes (o : Nat) (a b c : Int) (w : World) (ha : byte a) (hb : byte b) (hc : byte c) (hm : may o a b c = true) :
    Calls Tryd.prog 17 #[.agg #[.int .u8 o, .int .u8 a, .int .u8 b, .int .u8 c]] w fun e w' => e = .returned (.tuple #[.string (text o a b c), .int .i64 0]) ∧ Below w.heap.size w w' := by
  obtain ⟨T, hT⟩ : ∃ T, text o a b c = T := ⟨_, rfl⟩
  rw [hT]
  have HTX : Hid (T = joinB (parts o a b c)) := by show _ = _; rw [← hT]; rfl
  clear hT
  have hm2 := hm
  unfold may at hm2
  rw [Bool.and_eq_true, decide_eq_true_iff] at hm2
  obtain ⟨ho, hwt⟩ := hm2
  have HWT : Hid (wrt (ksOf o) [a, b, c] [fWord o] = (true, parts o a b c)) := by show _ = _; unfold parts; rw [← hwt]
  clear hwt
  have ho' : (o : Int) < 23 := by omega
  have hwr : Hid (IntKind.i64.wrap (o : Int) = (o : Int)) := by show _ = _; rw [IntKind.wrap_i64]; omega
  have hfa := field_at o ho
  have hwa := word_at o ho
  have hws : (fWord o).size ≤ 10 := by rw [size_data]; have := (word_plain o ho).2; omega
  go_enter Tryd.func17, Tryd.ntmps17
  go_wp2_with (go_at_call 12; refine (refCheck_any o (by omega) _ _ _ _ ha hb hc).mono ?_; rintro e w1 ⟨rfl, hb1⟩)
  have z1 : w.heap.size < w1.heap.size := by have := hb1.size; simp at this; omega
  have hb1' : Below (w.heap.size + 1) (w.alloc (.cells #[.int .u8 o, .int .u8 a, .int .u8 b, .int .u8 c] 24)) w1 := hb1.mono (by simp)
  have v0 : w1.cell? ⟨w.heap.size, 0, none⟩ = some (.int .u8 o) := by rw [(bcell hb1').1 _ _ (by omega)]; simp [go_sem]
  go_cut [4] (fun s4 wx => s4 = .string (fWord o) ∧ Below (w.heap.size + 1) (w.alloc (.cells #[.int .u8 o, .int .u8 a, .int .u8 b, .int .u8 c] 24)) wx)
  case first =>
    go_region_with (go_at_call 22; refine (words_any _).mono ?_; rintro e w2 ⟨rfl, rfl⟩)
    all_goals (go_wp2_with fail; go_meet)
    all_goals exact ⟨rfl, (hb1'.drew.alloc (by simp; omega) _)⟩
  case rest =>
    obtain ⟨rfl, hB⟩ := hcut
    obtain ⟨wb, hwb⟩ : ∃ x, x = wc := ⟨_, rfl⟩
    subst hwb
    clear hb1 hb1' v0
    have zb : w.heap.size < wb.heap.size := by have := hB.size; simp at this; omega
    have x0 : wb.cell? ⟨w.heap.size, 0, none⟩ = some (.int .u8 o) := by rw [(bcell hB).1 _ _ (by omega)]; simp [go_sem]
    have x1 : wb.cell? ⟨w.heap.size, 1, none⟩ = some (.int .u8 a) := by rw [(bcell hB).1 _ _ (by omega)]; simp [go_sem]
    have x2 : wb.cell? ⟨w.heap.size, 2, none⟩ = some (.int .u8 b) := by rw [(bcell hB).1 _ _ (by omega)]; simp [go_sem]
    have x3 : wb.cell? ⟨w.heap.size, 3, none⟩ = some (.int .u8 c) := by rw [(bcell hB).1 _ _ (by omega)]; simp [go_sem]
    go_wp2
    go_cut [6] (fun s6 wx => s6 = .string (fField o) ∧ Below (wb.heap.size + 1) (wb.alloc (.cells #[.int .u8 a, .int .u8 b, .int .u8 c] 5)) wx)
    case first =>
      go_region_with (go_at_call 23; refine (fields_any _).mono ?_; rintro e w2 ⟨rfl, rfl⟩)
      all_goals (go_wp2_with fail; go_meet)
      all_goals exact ⟨rfl, ((Below.refl _ _).drew.alloc (by simp) _)⟩
    case rest =>
      obtain ⟨rfl, hB2⟩ := hcut
      have hbw : Below w.heap.size w wc := (((Below.refl _ _).alloc (Nat.le_refl _) _).trans (hB.mono (by omega))).trans (((Below.refl _ _).alloc (Nat.le_refl _) _).trans (hB2.mono (by omega)) |>.mono (by omega))
      have HBW : Hid (Below w.heap.size w wc) := hbw
      have zc : wb.heap.size < wc.heap.size := by have := hB2.size; simp at this; omega
      have HC0 : Hid (∀ (i : Nat) (x : Int), ([a, b, c] : List Int)[i]? = some x → wc.cell? ⟨wb.heap.size, 0 + i, none⟩ = some (.int .u8 x)) := by
        intro i x hx
        rw [(bcell hB2).1 _ _ (by omega)]
        match i with
        | 0 => simp at hx; subst hx; simp [go_sem]
        | 1 => simp at hx; subst hx; simp [go_sem]
        | 2 => simp at hx; subst hx; simp [go_sem]
        | i + 3 => simp at hx
      have HF0 : Hid ((fField o).data.toList = (ksOf o).map kChar) := field_kinds o ho
      have HFIT : fit (ksOf o) 3 := fit_all o ho
      have HX : Hid (∀ (i : Nat) (x : Int), ([a, b, c] : List Int)[i]? = some x → 0 ≤ x ∧ x ≤ 255) := by
        intro i x hx
        match i with
        | 0 => simp at hx; subst hx; exact ha
        | 1 => simp at hx; subst hx; exact hb
        | 2 => simp at hx; subst hx; exact hc
        | i + 3 => simp at hx
      have HS0 : Hid ([fWord o] ≠ [] ∧ fWord o = joinB [fWord o]) := ⟨by simp, by unfold joinB; rw [List.map_singleton, jn_one, data_mk]⟩
      generalize fField o = f at HF0 ⊢
      have hn : f.size = (ksOf o).length := by have h := congrArg List.length HF0.out; rw [List.length_map] at h; rw [← h]; exact Array.length_toList.symm
      clear hbw hB hB2 x0 x1 x2 x3 zb hfa hwa hm
      obtain ⟨n, hnn⟩ : ∃ n, (ksOf o).length = n := ⟨_, rfl⟩
      rw [hnn] at hn
      have hn3 : n ≤ 3 := by rw [← hnn]; exact fit_len HFIT
      have hzz : w.heap.size ≤ wc.heap.size := HBW.out.size
      go_wp2
      go_loopg [4, 7, 8] n (fun g s4 s7 s8 wx => ∃ (i p : Nat) (ks : List Nat) (bs : List Int) (acc : List ByteArray) (S : ByteArray), ks.length = g ∧ i + g = n ∧ s8 = .int .i64 i ∧ s7 = .int .i64 p ∧ s4 = .string S ∧ p + bs.length = 3 ∧ Below wc.heap.size wc wx ∧ S.size ≤ 10 * (i + 1) ∧
        Hid (acc ≠ [] ∧ S = joinB acc) ∧ Hid (∀ (j k : Nat), ks[j]? = some k → f.data.toList[i + j]? = some (kChar k)) ∧ fit ks bs.length ∧ Hid (∀ (i : Nat) (x : Int), bs[i]? = some x → 0 ≤ x ∧ x ≤ 255) ∧
        Hid (∀ (i : Nat) (x : Int), bs[i]? = some x → wc.cell? ⟨wb.heap.size, p + i, none⟩ = some (.int .u8 x)) ∧ Hid (wrt ks bs acc = (true, parts o a b c)))
      case atStart => exact ⟨0, 0, ksOf o, [a, b, c], [fWord o], fWord o, hnn, by omega, rfl, rfl, rfl, rfl, Below.refl _ _, by omega, HS0, fun j k h => by rw [HF0.out, List.getElem?_map, Nat.zero_add, h]; rfl, HFIT, HX, HC0, HWT⟩
      case round =>
        obtain ⟨i, p, ks, bs, acc, S, hkl, hig, rfl, rfl, rfl, hpb, hBx, hSz, HS, HF, hft, HY, HC, HR⟩ := hrel
        have hwcr : wc.heap.size ≤ wr.heap.size := hBx.size
        cases gk with
        | zero =>
          have hks : ks = [] := List.eq_nil_of_length_eq_zero hkl
          subst hks
          have hlt : ¬ ((i : Int) < (n : Int)) := by omega
          have HE : Hid (S = T) := by
            show _ = _
            have := HR.out
            simp only [wrt, Prod.mk.injEq] at this
            rw [HS.out.2, HTX.out, this.2]
          clear HR HS
          go_wp2
          go_ret2
          exact ⟨by rw [← HE.out]; rfl, HBW.out.trans (hBx.mono hzz)⟩
        | succ g =>
          obtain ⟨k, ks', rfl⟩ : ∃ k ks', ks = k :: ks' := by
            cases ks with
            | nil => simp at hkl
            | cons k ks' => exact ⟨k, ks', rfl⟩
          obtain ⟨hk1, hk5, hkn, hft'⟩ := hft
          have hkb := kSz_bd k
          have hlt : (i : Int) < (n : Int) := by omega
          obtain ⟨x, hx⟩ : ∃ x, bs[0]? = some x := ⟨_, List.getElem?_eq_getElem (by omega)⟩
          have hx0 : bs.getD 0 0 = x := by rw [List.getD_eq_getElem?_getD, hx]; rfl
          obtain ⟨hxl, hxh⟩ := HY.out 0 x hx
          obtain ⟨xn, rfl⟩ : ∃ xn : Nat, x = xn := ⟨x.toNat, by omega⟩
          have hcx : wr.cell? ⟨wb.heap.size, p, none⟩ = some (.int .u8 xn) := by rw [(bcell hBx).1 _ _ zc]; exact HC.out 0 xn hx
          have hgt := HF.out 0 k rfl
          rw [Nat.add_zero] at hgt
          have hget : ∀ (h : i < f.size), f[i] = kChar k := fun h => get_of hgt h
          have hRR := HR.out
          rw [wrt, hx0] at hRR
          obtain ⟨y, hy⟩ : ∃ y, bs.getD 1 0 = y := ⟨_, rfl⟩
          rw [hy] at hRR
          have hok : kOk k xn y = true := by
            cases h : kOk k xn y with
            | true => rfl
            | false => rw [if_neg (by rw [h]; decide)] at hRR; cases hRR
          rw [if_pos hok] at hRR
          have HRR : Hid (wrt ks' (bs.drop (kSz k)) (acc ++ [kText k xn y]) = (true, parts o a b c)) := hRR
          have hp3 : (p : Int) < 3 := by omega
          have hSz4 : S.size ≤ 40 := by omega
          have hx255 : xn ≤ 255 := by omega
          have HBX : Hid (bs[0]? = some (xn : Int)) := hx
          clear hRR HR hx0 hgt hx
          obtain rfl | rfl | rfl | rfl | rfl : k = 1 ∨ k = 2 ∨ k = 3 ∨ k = 4 ∨ k = 5 := by omega
          · have hx7 : xn ≤ 7 := by rw [kOk1 _ y hxl hxh, decide_eq_true_iff] at hok; omega
            clear hy hok
            have hget : ∀ (h : i < f.size), f[i] = 114 := hget
            have cD : ∀ W : World, Calls Tryd.prog 25 #[.int .i64 (xn)] W fun e w' => e = .returned (.string (mk (Lib.decDigits (xn)))) ∧ Below W.heap.size W w' := by
              have := digits_any (xn) (by omega)
              rwa [show ((xn : Nat) : Int) = xn by omega] at this
            have hdz := dig_size (xn) (by omega)
            have HG : Hid (S ++ ⟨#[32]⟩ ++ ⟨#[114]⟩ ++ mk (Lib.decDigits (xn)) = joinB (acc ++ [kText 1 xn y])) := by
              show _ = _
              rw [glue2, join_next acc HS.out.1 _ _ (kt1 xn y hx7), ← HS.out.2, mk_data]
            generalize mk (Lib.decDigits (xn)) = ds at cD hdz HG
            clear HS
            go_wp2_with (go_at_call 25; refine (cD _).mono ?_; rintro e w1 ⟨rfl, hb1⟩)
            go_roundg g
            case measure => omega
            case rel =>
              refine ⟨i + 1, p + 1, ks', bs.drop 1, acc ++ [kText 1 xn y], _, by simpa using hkl, by omega, by go_num, by go_num, rfl, by rw [List.length_drop]; omega, hBx.trans (hb1.mono hwcr), by simp only [ByteArray.size_append, bsz]; omega, ⟨by simp, HG.out⟩, ?_, by rw [List.length_drop]; exact hft', ?_, ?_, HRR.out⟩
              · intro j q hq; rw [show i + 1 + j = i + (j + 1) by omega]; exact HF.out (j + 1) q (by simpa using hq)
              · intro j x hx; rw [List.getElem?_drop] at hx; exact HY.out _ _ hx
              · intro j x hx; rw [List.getElem?_drop] at hx; rw [Nat.add_assoc]; exact HC.out _ _ hx
          · clear hy hok
            have hget : ∀ (h : i < f.size), f[i] = 98 := hget
            have cD : ∀ W : World, Calls Tryd.prog 25 #[.int .i64 (xn)] W fun e w' => e = .returned (.string (mk (Lib.decDigits (xn)))) ∧ Below W.heap.size W w' := by
              have := digits_any (xn) (by omega)
              rwa [show ((xn : Nat) : Int) = xn by omega] at this
            have hdz := dig_size (xn) (by omega)
            have HG : Hid (S ++ ⟨#[32]⟩ ++ mk (Lib.decDigits (xn)) = joinB (acc ++ [kText 2 xn y])) := by
              show _ = _
              rw [glue1, join_next acc HS.out.1 _ _ (kt2 xn y hx255), ← HS.out.2, mk_data]
            generalize mk (Lib.decDigits (xn)) = ds at cD hdz HG
            clear HS
            go_wp2_with (go_at_call 25; refine (cD _).mono ?_; rintro e w1 ⟨rfl, hb1⟩)
            go_roundg g
            case measure => omega
            case rel =>
              refine ⟨i + 1, p + 1, ks', bs.drop 1, acc ++ [kText 2 xn y], _, by simpa using hkl, by omega, by go_num, by go_num, rfl, by rw [List.length_drop]; omega, hBx.trans (hb1.mono hwcr), by simp only [ByteArray.size_append, bsz]; omega, ⟨by simp, HG.out⟩, ?_, by rw [List.length_drop]; exact hft', ?_, ?_, HRR.out⟩
              · intro j q hq; rw [show i + 1 + j = i + (j + 1) by omega]; exact HF.out (j + 1) q (by simpa using hq)
              · intro j x hx; rw [List.getElem?_drop] at hx; exact HY.out _ _ hx
              · intro j x hx; rw [List.getElem?_drop] at hx; rw [Nat.add_assoc]; exact HC.out _ _ hx
          · clear hy hok
            by_cases h127 : xn ≤ 127
            · have hneg : ¬ ((128 : Int) ≤ (xn : Int)) := by omega
              have hget : ∀ (h : i < f.size), f[i] = 115 := hget
              have cD : ∀ W : World, Calls Tryd.prog 25 #[.int .i64 (xn)] W fun e w' => e = .returned (.string (mk (Lib.decDigits (xn)))) ∧ Below W.heap.size W w' := by
                have := digits_any (xn) (by omega)
                rwa [show ((xn : Nat) : Int) = xn by omega] at this
              have hdz := dig_size (xn) (by omega)
              have HG : Hid (S ++ ⟨#[32]⟩ ++ mk (Lib.decDigits (xn)) = joinB (acc ++ [kText 3 xn y])) := by
                show _ = _
                rw [glue1, join_next acc HS.out.1 _ _ (kt3 xn y h127), ← HS.out.2, mk_data]
              generalize mk (Lib.decDigits (xn)) = ds at cD hdz HG
              clear HS
              go_wp2_with (go_at_call 25; refine (cD _).mono ?_; rintro e w1 ⟨rfl, hb1⟩)
              go_roundg g
              case measure => omega
              case rel =>
                refine ⟨i + 1, p + 1, ks', bs.drop 1, acc ++ [kText 3 xn y], _, by simpa using hkl, by omega, by go_num, by go_num, rfl, by rw [List.length_drop]; omega, hBx.trans (hb1.mono hwcr), by simp only [ByteArray.size_append, bsz]; omega, ⟨by simp, HG.out⟩, ?_, by rw [List.length_drop]; exact hft', ?_, ?_, HRR.out⟩
                · intro j q hq; rw [show i + 1 + j = i + (j + 1) by omega]; exact HF.out (j + 1) q (by simpa using hq)
                · intro j x hx; rw [List.getElem?_drop] at hx; exact HY.out _ _ hx
                · intro j x hx; rw [List.getElem?_drop] at hx; rw [Nat.add_assoc]; exact HC.out _ _ hx
            · have hneg : (128 : Int) ≤ (xn : Int) := by omega
              have hget : ∀ (h : i < f.size), f[i] = 115 := hget
              have cD : ∀ W : World, Calls Tryd.prog 25 #[.int .i64 (256 - (xn : Int))] W fun e w' => e = .returned (.string (mk (Lib.decDigits (256 - xn)))) ∧ Below W.heap.size W w' := by
                have := digits_any (256 - xn) (by omega)
                rwa [show ((256 - xn : Nat) : Int) = 256 - (xn : Int) by omega] at this
              have hdz := dig_size (256 - xn) (by omega)
              have HG : Hid (S ++ ⟨#[32]⟩ ++ ⟨#[45]⟩ ++ mk (Lib.decDigits (256 - xn)) = joinB (acc ++ [kText 3 xn y])) := by
                show _ = _
                rw [glue2, join_next acc HS.out.1 _ _ (kt3n xn y (by omega) hx255), ← HS.out.2, mk_data]
              generalize mk (Lib.decDigits (256 - xn)) = ds at cD hdz HG
              clear HS
              go_wp2_with (go_at_call 25; refine (cD _).mono ?_; rintro e w1 ⟨rfl, hb1⟩)
              go_roundg g
              case measure => omega
              case rel =>
                refine ⟨i + 1, p + 1, ks', bs.drop 1, acc ++ [kText 3 xn y], _, by simpa using hkl, by omega, by go_num, by go_num, rfl, by rw [List.length_drop]; omega, hBx.trans (hb1.mono hwcr), by simp only [ByteArray.size_append, bsz]; omega, ⟨by simp, HG.out⟩, ?_, by rw [List.length_drop]; exact hft', ?_, ?_, HRR.out⟩
                · intro j q hq; rw [show i + 1 + j = i + (j + 1) by omega]; exact HF.out (j + 1) q (by simpa using hq)
                · intro j x hx; rw [List.getElem?_drop] at hx; exact HY.out _ _ hx
                · intro j x hx; rw [List.getElem?_drop] at hx; rw [Nat.add_assoc]; exact HC.out _ _ hx
          · have hkn2 : 2 ≤ bs.length := hkn
            obtain ⟨y', hyy⟩ : ∃ y', bs[1]? = some y' := ⟨_, List.getElem?_eq_getElem (by omega)⟩
            obtain rfl : y' = y := by rw [← hy, List.getD_eq_getElem?_getD, hyy]; rfl
            obtain ⟨hyl, hyh⟩ := HY.out 1 _ hyy
            obtain ⟨yn, hyn⟩ : ∃ yn : Nat, y' = yn := ⟨y'.toNat, by omega⟩
            subst hyn
            have hcy : wr.cell? ⟨wb.heap.size, p + 1, none⟩ = some (.int .u8 yn) := by rw [(bcell hBx).1 _ _ zc]; exact HC.out 1 yn hyy
            have hp3' : (p : Int) + 1 < 3 := by omega
            clear hy hok hyy
            have hget : ∀ (h : i < f.size), f[i] = 110 := hget
            have cD : ∀ W : World, Calls Tryd.prog 25 #[.int .i64 (256 * (xn : Int) + (yn : Int))] W fun e w' => e = .returned (.string (mk (Lib.decDigits (256 * xn + yn)))) ∧ Below W.heap.size W w' := by
              have := digits_any (256 * xn + yn) (by omega)
              rwa [show ((256 * xn + yn : Nat) : Int) = 256 * (xn : Int) + (yn : Int) by omega] at this
            have hdz := dig_size (256 * xn + yn) (by omega)
            have HG : Hid (S ++ ⟨#[32]⟩ ++ mk (Lib.decDigits (256 * xn + yn)) = joinB (acc ++ [kText 4 xn yn])) := by
              show _ = _
              rw [glue1, join_next acc HS.out.1 _ _ (kt4 xn yn), ← HS.out.2, mk_data]
            generalize mk (Lib.decDigits (256 * xn + yn)) = ds at cD hdz HG
            clear HS
            go_wp2_with (go_at_call 25; refine (cD _).mono ?_; rintro e w1 ⟨rfl, hb1⟩)
            go_roundg g
            case measure => omega
            case rel =>
              refine ⟨i + 1, p + 2, ks', bs.drop 2, acc ++ [kText 4 xn yn], _, by simpa using hkl, by omega, by go_num, by go_num, rfl, by rw [List.length_drop]; omega, hBx.trans (hb1.mono hwcr), by simp only [ByteArray.size_append, bsz]; omega, ⟨by simp, HG.out⟩, ?_, by rw [List.length_drop]; exact hft', ?_, ?_, HRR.out⟩
              · intro j q hq; rw [show i + 1 + j = i + (j + 1) by omega]; exact HF.out (j + 1) q (by simpa using hq)
              · intro j x hx; rw [List.getElem?_drop] at hx; exact HY.out _ _ hx
              · intro j x hx; rw [List.getElem?_drop] at hx; rw [Nat.add_assoc]; exact HC.out _ _ hx
          · have hx20 : xn ≤ 20 := by rw [kOk5 _ y hxl hxh, Bool.and_eq_true, decide_eq_true_iff, decide_eq_true_iff] at hok; omega
            clear hy hok
            have hget : ∀ (h : i < f.size), f[i] = 119 := hget
            have cD : ∀ W : World, Calls Tryd.prog 25 #[.int .i64 (xn)] W fun e w' => e = .returned (.string (mk (Lib.decDigits (xn)))) ∧ Below W.heap.size W w' := by
              have := digits_any (xn) (by omega)
              rwa [show ((xn : Nat) : Int) = xn by omega] at this
            have hdz := dig_size (xn) (by omega)
            have HG : Hid (S ++ ⟨#[32]⟩ ++ mk (Lib.decDigits (xn)) = joinB (acc ++ [kText 5 xn y])) := by
              show _ = _
              rw [glue1, join_next acc HS.out.1 _ _ (kt5 xn y hx20), ← HS.out.2, mk_data]
            generalize mk (Lib.decDigits (xn)) = ds at cD hdz HG
            clear HS
            go_wp2_with (go_at_call 25; refine (cD _).mono ?_; rintro e w1 ⟨rfl, hb1⟩)
            go_roundg g
            case measure => omega
            case rel =>
              refine ⟨i + 1, p + 1, ks', bs.drop 1, acc ++ [kText 5 xn y], _, by simpa using hkl, by omega, by go_num, by go_num, rfl, by rw [List.length_drop]; omega, hBx.trans (hb1.mono hwcr), by simp only [ByteArray.size_append, bsz]; omega, ⟨by simp, HG.out⟩, ?_, by rw [List.length_drop]; exact hft', ?_, ?_, HRR.out⟩
              · intro j q hq; rw [show i + 1 + j = i + (j + 1) by omega]; exact HF.out (j + 1) q (by simpa using hq)
              · intro j x hx; rw [List.getElem?_drop] at hx; exact HY.out _ _ hx
              · intro j x hx; rw [List.getElem?_drop] at hx; rw [Nat.add_assoc]; exact HC.out _ _ hx
end Go.Proofs.YtdneldjnkkpmoaaDoor
