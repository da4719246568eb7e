/- The document's own reading of an instruction. -/
import Derived.Test.YtdneldjnkkpmoaaDoorTextWalk
import Derived.BigQuiet
namespace Go.Proofs.YtdneldjnkkpmoaaDoor
open Go Go.RowKit
set_option maxRecDepth 100000
set_option linter.unusedVariables false
set_option linter.unusedSimpArgs false
theorem below_draws {n : Nat} {w w' : World} (h : Below n w w') : ∀ k, Below n w (w'.drewN k)
  | 0 => h
  | k + 1 => by rw [← World.drew_drewN]; exact (below_draws h k).drew
theorem field_none (q : Nat) (h1 : 1 ≤ q) (h5 : q ≤ 5) (t : ByteArray) (ht : t.size ≤ 1048576) (hf : frd q t.data.toList = none) (W : World) :
    Calls Tryd.prog 29 #[.int .u8 ((kChar q).toNat : Nat), .string t] W fun e w' => ∃ v, e = .returned (.tuple #[v, .bool false]) ∧ Below W.heap.size W w' := by
  refine (field_any q h1 h5 t ht W).mono ?_
  rintro e w' ⟨v, he, hb, _⟩
  rw [hf] at he
  exact ⟨v, he, hb⟩
theorem field_some (q : Nat) (h1 : 1 ≤ q) (h5 : q ≤ 5) (t : ByteArray) (ht : t.size ≤ 1048576) (m : Int) (hf : frd q t.data.toList = some m) (W : World) :
    Calls Tryd.prog 29 #[.int .u8 ((kChar q).toNat : Nat), .string t] W fun e w' => e = .returned (.tuple #[.slice (some ⟨W.heap.size, 0, none⟩) (kSz q) (kSz q), .bool true]) ∧ w' = W.alloc (.cells (ints (kBytes q m)).toArray 5) := by
  refine (field_any q h1 h5 t ht W).mono ?_
  rintro e w' ⟨v, he, hb, hs⟩
  obtain ⟨rfl, hw⟩ := hs m hf
  rw [hf] at he
  exact ⟨he, hw⟩
theorem own_on {w w' : World} {base n size : Nat} {e : TypeId} {v : Value} {xs : List Value} (h : w.ownsRow base e size v n xs) (hb : Below w.heap.size w w') : w'.ownsRow base e size v n xs := by
  cases hg : v.ownBlock with
  | some gp => exact own_kept h hg (hb.block _ (own_ge h hg).2)
  | none =>
    refine ⟨h.1, ?_⟩
    rcases h.2 with h2 | ⟨g, cap, cur, hv, _⟩
    · exact Or.inl h2
    · subst hv; cases hg
theorem own_form5 {w : World} {base n size : Nat} {e : TypeId} {v : Value} {xs : List Value} (h : w.ownsRow base e size v n xs) : ∃ sp cap, v = .slice sp n cap := by
  rcases h.2 with ⟨h2, h3⟩ | ⟨g, cap, cur, hv, _⟩
  · exact ⟨none, 0, by rw [h2, h3]⟩
  · exact ⟨_, cap, hv⟩
theorem own_some5 {w : World} {base n size : Nat} {e : TypeId} {v : Value} {xs : List Value} (h : w.ownsRow base e size v n xs) (hn : 1 ≤ n) : ∃ g cap, v = .slice (some ⟨g, 0, none⟩) n cap ∧ n ≤ cap ∧ base ≤ g ∧ g < w.heap.size := by
  rcases h.2 with ⟨_, h0⟩ | ⟨g, cap, cur, hv, hb, hg, hnc, _⟩
  · omega
  · refine ⟨g, cap, hv, hnc, hb, ?_⟩
    rcases Nat.lt_or_ge g w.heap.size with h | h
    · exact h
    · rw [Array.getElem?_eq_none h] at hg; cases hg
theorem idx_next (gl cap i n : Nat) (h : i < n) (W : World) : (Instr.indexAt 44 (.slice (some ⟨gl, 0, none⟩) (n + 1) cap) (.int .i64 (1 + (i : Int)))).run Tryd.prog W = .ok (.pointer (some ⟨gl, i + 1, none⟩)) W := by
  rw [run_indexAt_slice W 44 _ _ _ _ _ (by kernel_rfl), if_pos (by omega)]
  have hs : (sizeOf (Tryd.prog.elem 44)).run Tryd.prog W = .ok 1 W := by kernel_rfl
  rw [hs, Result.andThen_ok, show ((1 : Int) + (i : Int)).toNat * 1 = i + 1 by omega]
  simp [Addr.add]
theorem frd_bytes (k : Nat) (h1 : 1 ≤ k) (h5 : k ≤ 5) (l : List UInt8) (n : Int) (h : frd k l = some n) : ∀ x ∈ kBytes k n, byte x := by
  obtain ⟨a, b, c⟩ := frd_bd k h1 h5 l n h
  intro x hx
  unfold kBytes at hx
  split at hx
  · rename_i h4
    have := c h4
    simp at hx
    unfold byte
    rcases hx with rfl | rfl <;> omega
  · simp at hx
    unfold byte
    subst hx
    omega
theorem ints_app (a b : List Int) : ints a ++ ints b = ints (a ++ b) := by unfold ints; rw [List.map_append]
theorem strings_ne (p q : ByteArray) (h : p ≠ q) : (p.toList == q.toList) = false := by
  rw [beq_eq_false_iff_ne, Lib.toList_data, Lib.toList_data]
  intro e
  exact h (by rw [← data_mk p, ← data_mk q, e])
theorem prsR_at (p0 : ByteArray) (ts : List ByteArray) (o : Nat) (ho : o < 23) (h : p0 = fWord o) : prsR (p0 :: ts) = if (ksOf o).length = ts.length then match rdAllR (ksOf o) ts [] with
        | some d => if chk (ksOf o) (pad d) = true then some (o, pad d) else none
        | none => none
      else none := by
  rw [prsR, h, opOf_word o ho]
  rfl
theorem prsR_end (p0 : ByteArray) (ts : List ByteArray) (h : (∃ i, i < 23 ∧ p0 = fWord i) → prsR (p0 :: ts) = none) : prsR (p0 :: ts) = none := by
  cases ho : opOf p0.data.toList with
  | none => rw [prsR, ho]
  | some o =>
    obtain ⟨h1, h2⟩ := opOf_some ho
    exact h ⟨o, h1, by rw [← data_mk p0, ← h2, data_mk]⟩
theorem pad_step (d : List Int) (h : d.length < 3) : pad (d ++ [0]) = pad d := by
  unfold pad
  rw [List.length_append, List.length_singleton, List.append_assoc, show 3 - d.length = (3 - (d.length + 1)) + 1 by omega]
  rfl
theorem mem_jn_len : ∀ (ps : List (List UInt8)) (x : List UInt8), x ∈ ps → x.length ≤ (jn ps).length
  | [], _, h => by cases h
  | [p], x, h => by rw [jn_one, List.mem_singleton.1 h]; exact Nat.le_refl _
  | p :: q :: ps, x, h => by
    rw [jn_two, List.length_append, List.length_cons]
    rcases List.mem_cons.1 h with rfl | h
    · omega
    · have := mem_jn_len (q :: ps) x h
      omega
set_option maxHeartbeats 4000000 in
theorem refParse_any (s : ByteArray) (hs : s.size ≤ 1048576) (w : World) :
    Calls Tryd.prog 19 #[.string s] w fun e w' => e = .returned (pv (prs (splitP s))) ∧ Below w.heap.size w w' := by
  obtain ⟨i0, hi, hz0, hz1, hz2⟩ := info_parts info5
  obtain ⟨R, hR⟩ : ∃ R, prs (splitP s) = R := ⟨_, rfl⟩
  rw [hR]
  have HRR : Hid (∀ ps : List (List UInt8), ps ≠ [] → (∀ w ∈ ps, (32 : UInt8) ∉ w) → jn ps = s.data.toList → prsR (ps.map mk) = R) := fun ps a b c => by rw [parts_prs s ps a b c, hR]
  clear hR
  go_enter Tryd.func19, Tryd.ntmps19
  go_wp2_with (first
    | (go_at_call 28; refine (parts_any s hs _).mono ?_; rintro e w1 ⟨v, rfl, hb1, ps, hown, hpl, hne, hplain, hj⟩; obtain ⟨gl, cap, rfl, hcap, hgl⟩ := own_slice hown (List.length_pos_iff.2 hne))
    | (go_at_call 22; refine (words_any _).mono ?_; rintro e w2 ⟨rfl, rfl⟩))
  have zB : w.heap.size < w1.heap.size := by have := hb1.size; simp at this; omega
  have hB1 : Below w.heap.size w w1 := ((Below.refl _ _).alloc (Nat.le_refl _) _).trans (hb1.mono (by simp))
  have bq : Below w1.heap.size w1 (w1.alloc (.cells wordCells 9)) := (Below.refl _ _).alloc (Nat.le_refl _) _
  have HBQ : Hid (Below w.heap.size w (w1.alloc (.cells wordCells 9))) := hB1.trans (bq.mono (by omega))
  have HY : Hid (∀ i, i < 4 → (w1.alloc (.cells wordCells 9)).cell? ⟨w.heap.size, i, none⟩ = some (.int .u8 0)) := by
    intro i hi
    rw [(bcell bq).1 _ _ zB, (bcell hb1).1 _ _ (by simp)]
    match i, hi with
    | 0, _ => simp [go_sem]
    | 1, _ => simp [go_sem]
    | 2, _ => simp [go_sem]
    | 3, _ => simp [go_sem]
    | i + 4, h => omega
  have HZ : Hid (∀ i, (w1.alloc (.cells wordCells 9)).frozen? ⟨w.heap.size, i, none⟩ = false) := by
    intro i
    rw [(bcell bq).2 _ _ zB, (bcell hb1).2 _ _ (by simp)]
    simp [go_sem]
  have HWd : Hid (∀ j, j < 23 → (w1.alloc (.cells wordCells 9)).cell? ⟨w1.heap.size, j, none⟩ = some (.string (fWord j))) := fun j hj => alloc_cell (word_at j hj)
  have HL0 : Hid (∀ (j : Nat) (x : ByteArray), (ps.map mk)[j]? = some x → (w1.alloc (.cells wordCells 9)).cell? ⟨gl, j, none⟩ = some (.string x) ∧ x.size ≤ 1048576) := by
    intro j x hx
    rw [List.getElem?_map] at hx
    cases hp : ps[j]? with
    | none => rw [hp] at hx; cases hx
    | some l =>
      rw [hp] at hx
      obtain rfl := Option.some.inj hx
      refine ⟨?_, ?_⟩
      · rw [(bcell bq).1 _ _ hgl]
        rw [hown.cellAt j (by rw [Nat.mul_one]; exact (List.getElem?_eq_some_iff.1 hp).1)]
        unfold pcs
        rw [List.getElem?_map, hp]
        rfl
      · rw [mk_size]
        have := mem_jn_len ps l (List.mem_of_getElem? hp)
        rw [hj, ← size_data] at this
        omega
  have HRp := HRR.out ps hne hplain hj
  have hlen0 : (ps.map mk).length = ps.length := List.length_map ..
  obtain ⟨p0, ts, hpt⟩ : ∃ p0 ts, ps.map mk = p0 :: ts := List.exists_cons_of_ne_nil (by simpa using hne)
  rw [hpt] at HRp hlen0 HL0
  rw [List.length_cons] at hlen0
  have HRP : Hid (prsR (p0 :: ts) = R) := HRp
  have hlen : ps.length = ts.length + 1 := hlen0.symm
  have htl : ts.length ≤ 1048576 := by omega
  rw [hlen]
  rw [hlen] at hcap
  have hglq : gl < (w1.alloc (.cells wordCells 9)).heap.size := by rw [alloc_size]; omega
  have hgwq : w1.heap.size < (w1.alloc (.cells wordCells 9)).heap.size := by rw [alloc_size]; omega
  have hzq : w.heap.size < (w1.alloc (.cells wordCells 9)).heap.size := by rw [alloc_size]; omega
  generalize w1.alloc (.cells wordCells 9) = wq at *
  generalize w1.heap.size = gw at *
  clear HRR HRp hlen0 hpt hplain hj hne hpl hlen hown hb1 hB1 bq zB hgl
  go_loopg [6] 23 (fun g s6 wx => ∃ k : Nat, k + g = 23 ∧ s6 = .int .i64 k ∧ Below wq.heap.size wq wx ∧ Hid ((∃ i, i < k ∧ p0 = fWord i) → R = none))
  case atStart => exact ⟨0, rfl, rfl, Below.refl _ _, fun ⟨i, h, _⟩ => by omega⟩
  case round =>
    obtain ⟨k, hkg, rfl, hBx, HI⟩ := hrel
    have hqr : wq.heap.size ≤ wr.heap.size := hBx.size
    have hglr : gl < wr.heap.size := by omega
    have hgwr : gw < wr.heap.size := by omega
    have hzr : w.heap.size < wr.heap.size := by omega
    have HBr : Hid (Below w.heap.size w wr) := HBQ.out.trans (hBx.mono (by omega))
    have HYr : Hid (∀ i, i < 4 → wr.cell? ⟨w.heap.size, i, none⟩ = some (.int .u8 0)) := fun i hi => by rw [(bcell hBx).1 _ _ hzq]; exact HY.out i hi
    have HZr : Hid (∀ i, wr.frozen? ⟨w.heap.size, i, none⟩ = false) := fun i => by rw [(bcell hBx).2 _ _ hzq]; exact HZ.out i
    have c0 : wr.cell? ⟨gl, 0, none⟩ = some (.string p0) := by rw [(bcell hBx).1 _ _ hglq]; exact (HL0.out 0 p0 rfl).1
    cases gk with
    | zero =>
      obtain rfl : k = 23 := by omega
      have HN : Hid (R = none) := by show _ = _; rw [← HRP.out]; exact prsR_end p0 ts (fun h => by rw [HRP.out]; exact HI.out h)
      have y0 := HYr.out 0 (by decide)
      have y1 := HYr.out 1 (by decide)
      have y2 := HYr.out 2 (by decide)
      have y3 := HYr.out 3 (by decide)
      have fz := HZr.out
      clear c0
      go_wp2
      refine bodyPost_ret (v := .tuple #[.agg #[.int .u8 0, .int .u8 0, .int .u8 0, .int .u8 0], .int .i64 14]) (by simp [results, Tryd.results19, go_sem, y0, y1, y2, y3, hzr]) rfl ⟨by rw [HN.out]; rfl, ?_⟩
      exact (((HBr.out.setCell (Nat.le_refl _) _).setCell (Nat.le_refl _) _).setCell (Nat.le_refl _) _).setCell (Nat.le_refl _) _
    | succ g =>
      have hk : k < 23 := by omega
      have hk' : (k : Int) < 23 := by omega
      have hfa := field_at k hk
      have cw : wr.cell? ⟨gw, k, none⟩ = some (.string (fWord k)) := by rw [(bcell hBx).1 _ _ hgwq]; exact HWd.out k hk
      have HFS : Hid ((fField k).size = (ksOf k).length) := by show _ = _; rw [size_data, field_kinds k hk, List.length_map]
      have HFK : Hid ((fField k).data.toList = (ksOf k).map kChar) := field_kinds k hk
      have hfs := HFS.out
      have hks3 := ks_short k hk
      by_cases heq : p0 = fWord k
      · subst heq
        generalize fField k = f at *
        by_cases hlk : ts.length = (ksOf k).length
        · have HRV : Hid (R = match rdAllR (ksOf k) ts [] with
              | some d => if chk (ksOf k) (pad d) = true then some (k, pad d) else none
              | none => none) := by show _ = _; rw [← HRP.out, prsR_at _ ts k hk rfl, if_pos hlk.symm]
          have hd2 : (ts.length : Int) + 1 = 1 + (f.size : Int) := by omega
          have HFS0 : Hid (f.size = (ksOf k).length ∧ ts.length = (ksOf k).length) := ⟨hfs, hlk⟩
          clear HI HRP hfs hlk
          go_wp2_with (go_at_call 23; refine (fields_any _).mono ?_; rintro e w2 ⟨rfl, rfl⟩)
          go_quiet (fail)
          have hBi : Below wq.heap.size wq ((wr.alloc (.cells fieldCells 9)).drewN nq) := below_draws (hBx.alloc hqr _) _
          clear c0 cw HYr HZr HBr hBx hglr hgwr hzr hqr
          generalize (wr.alloc (.cells fieldCells 9)).drewN nq = wi at *
          have hqi : wq.heap.size ≤ wi.heap.size := hBi.size
          have hgli : gl < wi.heap.size := by omega
          have hzi : w.heap.size < wi.heap.size := by omega
          have HBi : Hid (Below w.heap.size w wi) := HBQ.out.trans (hBi.mono (by omega))
          have HYi : Hid (∀ i, i < 4 → wi.cell? ⟨w.heap.size, i, none⟩ = some (.int .u8 0)) := fun i hi => by rw [(bcell hBi).1 _ _ hzq]; exact HY.out i hi
          have HZi : Hid (∀ i, wi.frozen? ⟨w.heap.size, i, none⟩ = false) := fun i => by rw [(bcell hBi).2 _ _ hzq]; exact HZ.out i
          have HLi : Hid (∀ (j : Nat) (x : ByteArray), ts[j]? = some x → wi.cell? ⟨gl, j + 1, none⟩ = some (.string x) ∧ x.size ≤ 1048576) := fun j x hx => by rw [(bcell hBi).1 _ _ hglq]; exact HL0.out (j + 1) x (by simpa using hx)
          have HFIT : Hid (fit (ksOf k) 3) := fit_all k hk
          have hks3' : f.size ≤ 3 := by have := HFS0.out; omega
          have HNN : Hid ((ksOf k).length = f.size) := HFS0.out.1.symm
          have HLK : Hid (ts.length = f.size) := by show _ = _; rw [HFS0.out.1, HFS0.out.2]
          clear hfa HFS hd2 HFS0 hks3
          go_wp2
          go_loopg [8, 9] f.size (fun g' s8 s9 wx => ∃ (i : Nat) (ks : List Nat) (tl : List ByteArray) (d : List Int), ks.length = g' ∧ tl.length = g' ∧ i + g' = f.size ∧ s9 = .int .i64 i ∧ wx.ownsRow wi.heap.size 5 1 s8 d.length (ints d) ∧ Below wi.heap.size wi wx ∧ d.length ≤ 3 ∧ fit ks (3 - d.length) ∧
            Hid (rdAllR ks tl d = rdAllR (ksOf k) ts []) ∧ Hid (∀ (j q : Nat), ks[j]? = some q → f.data.toList[i + j]? = some (kChar q)) ∧ Hid (∀ (j : Nat) (x : ByteArray), tl[j]? = some x → ts[i + j]? = some x) ∧ Hid (∀ x ∈ d, byte x))
          case atStart =>
            exact ⟨0, ksOf k, ts, [], HNN.out, HLK.out, by omega, rfl, ⟨rfl, Or.inl ⟨rfl, rfl⟩⟩, Below.refl _ _, by simp, HFIT.out, rfl, fun j q h => by rw [HFK.out, List.getElem?_map, Nat.zero_add, h]; rfl, fun j x h => by rw [Nat.zero_add]; exact h, fun x h => by cases h⟩
          case round =>
            obtain ⟨i, ks, tl, d, hkl, htl2, hig, rfl, hown, hBw, hd3, hft, HR, HK, HT, HBy⟩ := hrel
            have hiw : wi.heap.size ≤ wr.heap.size := hBw.size
            cases gk with
            | zero =>
              have hks : ks = [] := List.eq_nil_of_length_eq_zero hkl
              have htl0 : tl = [] := List.eq_nil_of_length_eq_zero htl2
              subst hks htl0
              have hlt : ¬ ((i : Int) < (f.size : Int)) := by omega
              have HRZ : Hid (R = if chk (ksOf k) (pad d) = true then some (k, pad d) else none) := by
                show _ = _
                rw [HRV.out, ← HR.out]; rfl
              have HOW0 : Hid (wr.ownsRow wi.heap.size 5 1 u8 d.length (ints d)) := hown
              have hwk : IntKind.u8.wrap (k : Int) = (k : Int) := by rw [IntKind.wrap_u8]; omega
              clear HR HK HT HRV
              go_wp2
              go_loopg [8] (3 - d.length) (fun g3 s8 wx => ∃ d' : List Int, d'.length + g3 = 3 ∧ wx.ownsRow wi.heap.size 5 1 s8 d'.length (ints d') ∧ Below wi.heap.size wi wx ∧ Hid (pad d' = pad d ∧ ∀ x ∈ d', byte x))
              case atStart => exact ⟨d, by omega, HOW0.out, hBw, rfl, HBy.out⟩
              case round =>
                clear hown hBw HOW0 hiw
                obtain ⟨d', hdl, hown, hBw, HP⟩ := hrel
                have hiw : wi.heap.size ≤ wr.heap.size := hBw.size
                cases gk with
                | zero =>
                  obtain ⟨b0, b1, b2, rfl⟩ : ∃ b0 b1 b2, d' = [b0, b1, b2] := by
                    match d', hdl with
                    | [b0, b1, b2], _ => exact ⟨b0, b1, b2, rfl⟩
                  have HPD : Hid (pad d = [b0, b1, b2]) := HP.out.1.symm
                  have hy0 : byte b0 := HP.out.2 b0 (by simp)
                  have hy1 : byte b1 := HP.out.2 b1 (by simp)
                  have hy2 : byte b2 := HP.out.2 b2 (by simp)
                  have hown3 : wr.ownsRow wi.heap.size 5 1 u8 3 (ints [b0, b1, b2]) := hown
                  obtain ⟨gb, cb, rfl, hcb, hgb0, hgb⟩ := own_some5 hown3 (by decide)
                  have e0 : wr.cell? ⟨gb, 0, none⟩ = some (.int .u8 b0) := by have := hown3.cellAt 0 (by decide); simpa [ints] using this
                  have e1 : wr.cell? ⟨gb, 1, none⟩ = some (.int .u8 b1) := by have := hown3.cellAt 1 (by decide); simpa [ints] using this
                  have e2 : wr.cell? ⟨gb, 2, none⟩ = some (.int .u8 b2) := by have := hown3.cellAt 2 (by decide); simpa [ints] using this
                  have HRM : Hid (R = if may k b0 b1 b2 = true then some (k, [b0, b1, b2]) else none) := by
                    show _ = _
                    rw [HRZ.out, HPD.out]
                    have : may k b0 b1 b2 = chk (ksOf k) [b0, b1, b2] := by unfold may; rw [wrt_chk]; simp [hk]
                    rw [this]
                  have cC := fun W => refCheck_any k (by omega) b0 b1 b2 W hy0 hy1 hy2
                  clear hown hown3 HP hdl
                  go_wp2
                  go_cut [12] (fun s12 wx => ∃ B, s12 = .pointer (some ⟨B, 0, none⟩) ∧ wr.heap.size ≤ B ∧ At wx B k b0 b1 b2 ∧ Below wr.heap.size wr wx)
                  case first =>
                    go_region
                    all_goals (go_wp2_with fail; go_meet)
                    all_goals exact ⟨wr.heap.size, rfl, Nat.le_refl _, ⟨by simp [go_sem], by simp [go_sem], by simp [go_sem], by simp [go_sem], by simp [go_sem]⟩, ((Below.refl _ _).alloc (Nat.le_refl _) _).drew⟩
                  case rest =>
                    obtain ⟨B, rfl, hB0, hAt, hb7⟩ := hcut
                    have hBc : Below wi.heap.size wi wc := hBw.trans (hb7.mono hiw)
                    have hwc : wi.heap.size ≤ wc.heap.size := hBc.size
                    have A0 := hAt.c0
                    have A1 := hAt.c1
                    have A2 := hAt.c2
                    have A3 := hAt.c3
                    have hAl := hAt.lt
                    have HAt : Hid (At wc B k b0 b1 b2) := hAt
                    have HBC : Hid (Below wi.heap.size wi wc) := hBc
                    clear hAt hBc hb7 e0 e1 e2 hwk
                    cases hmy : may k b0 b1 b2 with
                    | false =>
                      have HN : Hid (R = none) := by show _ = _; rw [HRM.out, hmy]; rfl
                      simp only [hmy] at cC
                      clear hmy HRM HRZ HPD
                      go_wp2_with (go_at_call 12; refine (cC _).mono ?_; rintro e w8 ⟨rfl, hb8⟩)
                      go_roundg g
                      case measure => omega
                      case rel => exact ⟨k + 1, by omega, by go_num, hBi.trans ((HBC.out.trans (hb8.mono hwc)).mono hqi), fun _ => HN.out⟩
                    | true =>
                      have HN : Hid (R = some (k, [b0, b1, b2])) := by show _ = _; rw [HRM.out, hmy]; rfl
                      simp only [hmy] at cC
                      clear hmy HRM HRZ HPD
                      go_wp2_with (go_at_call 12; refine (cC _).mono ?_; rintro e w8 ⟨rfl, hb8⟩; have hB8 : Below wi.heap.size wi w8 := HBC.out.trans (hb8.mono hwc); have A8 := HAt.out.on hb8; have A8l := A8.lt; have A80 := A8.c0; have A81 := A8.c1; have A82 := A8.c2; have A83 := A8.c3; have y0 : w8.cell? ⟨w.heap.size, 0, none⟩ = some (.int .u8 0) := (by rw [(bcell hB8).1 _ _ hzi]; exact HYi.out 0 (by decide)); have y1 : w8.cell? ⟨w.heap.size, 1, none⟩ = some (.int .u8 0) := (by rw [(bcell hB8).1 _ _ hzi]; exact HYi.out 1 (by decide)); have y2 : w8.cell? ⟨w.heap.size, 2, none⟩ = some (.int .u8 0) := (by rw [(bcell hB8).1 _ _ hzi]; exact HYi.out 2 (by decide)); have y3 : w8.cell? ⟨w.heap.size, 3, none⟩ = some (.int .u8 0) := (by rw [(bcell hB8).1 _ _ hzi]; exact HYi.out 3 (by decide)); have fz : ∀ i, w8.frozen? ⟨w.heap.size, i, none⟩ = false := (fun i => by rw [(bcell hB8).2 _ _ hzi]; exact HZi.out i); have hz8 : w.heap.size < w8.heap.size := (by have := hB8.size; omega); have HB8 : Hid (Below w.heap.size w w8) := HBi.out.trans (hB8.mono (by omega)); clear hB8 hb8)
                      (try simp only [Exit.inBlock, Exit.then])
                      repeat rw [Exit.noGoto_ret]
                      (try simp only [Exit.inBlock, Exit.then])
                      refine bodyPost_ret (v := .tuple #[.agg #[.int .u8 k, .int .u8 b0, .int .u8 b1, .int .u8 b2], .int .i64 0]) (by simp [results, Tryd.results19, go_sem, y0, y1, y2, y3, hz8]) rfl ⟨by rw [HN.out]; rfl, ?_⟩
                      exact (((HB8.out.setCell (Nat.le_refl _) _).setCell (Nat.le_refl _) _).setCell (Nat.le_refl _) _).setCell (Nat.le_refl _) _
                | succ g3 =>
                  obtain ⟨sp, cp, rfl⟩ := own_form5 hown
                  have hl3 : (d'.length : Int) < 3 := by omega
                  have HOW : Hid (wr.ownsRow wi.heap.size 5 1 (.slice sp d'.length cp) d'.length (ints d')) := hown
                  have HA4 : Hid (d'.length + 1 ≤ maxLen) := by show _ ≤ _; unfold maxLen; omega
                  have HP2 : Hid (pad (d' ++ [0]) = pad d ∧ ∀ x ∈ d' ++ [0], byte x) := by
                    refine ⟨by rw [pad_step d' (by omega)]; exact HP.out.1, ?_⟩
                    intro x hx
                    rcases List.mem_append.1 hx with hx | hx
                    · exact HP.out.2 x hx
                    · rw [List.mem_singleton.1 hx]; exact ⟨by decide, by decide⟩
                  clear hown HP
                  go_wp2_with (at_builtin; refine wpList_append_own_at _ rfl _ _ 48 rfl wi.heap.size 5 i0 (.int .u8 0) 1 1 Tryd.underlying48 hi hz0 hz1 hz2 rfl (by decide) (.slice sp d'.length cp) _ _ rfl (HOW.out.alloc _) ⟨wr.heap.size, 0, none⟩ 1 1 [.int .u8 0] rfl rfl (cell_one_new _ _ _) (fun x hx => by simp at hx; subst hx; rfl) HA4.out (by omega) (by rw [alloc_size]; omega) ?_; intro v' w6 hown' hgrow hnil hloc; clear hnil hloc)
                  all_goals
                    go_roundg g3
                    case measure => omega
                    case rel =>
                      have e1 : (d' ++ [(0 : Int)]).length = d'.length + 1 := by simp
                      have e2 : ints d' ++ [Value.int .u8 0] = ints (d' ++ [0]) := ints_app d' [0]
                      rw [e2, ← e1] at hown'
                      exact ⟨d' ++ [0], by rw [e1]; omega, hown', (hBw.alloc hiw _).grown hgrow (by rw [alloc_size]; omega) (fun p e => (own_ge HOW.out e).1), HP2.out⟩
            | succ g2 =>
              obtain ⟨q, ks', rfl⟩ : ∃ q ks', ks = q :: ks' := by
                cases ks with
                | nil => simp at hkl
                | cons q ks' => exact ⟨q, ks', rfl⟩
              obtain ⟨t, tl', rfl⟩ : ∃ t tl', tl = t :: tl' := by
                cases tl with
                | nil => simp at htl2
                | cons t tl' => exact ⟨t, tl', rfl⟩
              obtain ⟨hq1, hq5, hqn, hft'⟩ := hft
              have hqb := kSz_bd q
              have hlt : (i : Int) < (f.size : Int) := by omega
              have hti := HT.out 0 t rfl
              rw [Nat.add_zero] at hti
              obtain ⟨hct0, htsz⟩ := HLi.out i t hti
              have hct2 : wr.cell? ⟨gl, i + 1, none⟩ = some (.string t) := by rw [(bcell hBw).1 _ _ hgli]; exact hct0
              have hgt := HK.out 0 q rfl
              rw [Nat.add_zero] at hgt
              have hget : ∀ (h : i < f.size), f[i] = kChar q := fun h => get_of hgt h
              have hglw : gl < wr.heap.size := by omega
              have hidx := idx_next gl cap i ts.length (by have := HLK.out; omega)
              have hid2 : (1 : Int) + (i : Int) < (ts.length : Int) + 1 := by have := HLK.out; omega
              have hid0 : (0 : Int) ≤ 1 + (i : Int) := by omega
              have hid3 : ((1 : Int) + (i : Int)).toNat = i + 1 := by omega
              have hwi : IntKind.i64.wrap (1 + (i : Int)) = 1 + (i : Int) := by rw [IntKind.wrap_i64]; omega
              clear hct0 hti hgt
              cases hfr : frd q t.data.toList with
              | none =>
                have cF := field_none q hq1 hq5 t htsz hfr
                have HN : Hid (R = none) := by
                  show _ = _
                  rw [HRV.out, ← HR.out, rdAllR, hfr]
                clear hfr
                go_wp2
                go_cut [10, 11] (fun s10 s11 wx => s11 = .bool false ∧ Below wr.heap.size wr wx)
                case first =>
                  go_region_with (go_at_call 29; refine (cF _).mono ?_; rintro e w5 ⟨v5, rfl, hb5⟩)
                  all_goals (go_wp2_with fail; go_meet)
                  all_goals (first | exact ⟨rfl, hb5⟩ | exact ⟨rfl, (below_draws (Below.refl _ _) _).trans hb5⟩)
                case rest =>
                  obtain ⟨rfl, hb5⟩ := hcut
                  have hBc : Below wi.heap.size wi wc := hBw.trans (hb5.mono hiw)
                  have hwc : wi.heap.size ≤ wc.heap.size := hBc.size
                  have hzc : w.heap.size < wc.heap.size := by omega
                  have y0 : wc.cell? ⟨w.heap.size, 0, none⟩ = some (.int .u8 0) := by rw [(bcell hBc).1 _ _ hzi]; exact HYi.out 0 (by decide)
                  have y1 : wc.cell? ⟨w.heap.size, 1, none⟩ = some (.int .u8 0) := by rw [(bcell hBc).1 _ _ hzi]; exact HYi.out 1 (by decide)
                  have y2 : wc.cell? ⟨w.heap.size, 2, none⟩ = some (.int .u8 0) := by rw [(bcell hBc).1 _ _ hzi]; exact HYi.out 2 (by decide)
                  have y3 : wc.cell? ⟨w.heap.size, 3, none⟩ = some (.int .u8 0) := by rw [(bcell hBc).1 _ _ hzi]; exact HYi.out 3 (by decide)
                  have fz : ∀ i, wc.frozen? ⟨w.heap.size, i, none⟩ = false := fun i => by rw [(bcell hBc).2 _ _ hzi]; exact HZi.out i
                  have HBc : Hid (Below w.heap.size w wc) := HBi.out.trans (hBc.mono (by omega))
                  clear hct2 hidx hid2 hid0 hid3 hwi hget hBc
                  go_wp2
                  (try simp only [Exit.inBlock, Exit.then])
                  repeat rw [Exit.noGoto_ret]
                  (try simp only [Exit.inBlock, Exit.then])
                  refine bodyPost_ret (v := .tuple #[.agg #[.int .u8 0, .int .u8 0, .int .u8 0, .int .u8 0], .int .i64 14]) (by simp [results, Tryd.results19, go_sem, y0, y1, y2, y3, hzc]) rfl ⟨by rw [HN.out]; rfl, ?_⟩
                  exact (((HBc.out.setCell (Nat.le_refl _) _).setCell (Nat.le_refl _) _).setCell (Nat.le_refl _) _).setCell (Nat.le_refl _) _
              | some m =>
                have cF := field_some q hq1 hq5 t htsz m hfr
                have HRn : Hid (rdAllR ks' tl' (d ++ kBytes q m) = rdAllR (ksOf k) ts []) := by
                  show _ = _
                  rw [← HR.out, rdAllR, hfr]
                have HBn : Hid (∀ x ∈ d ++ kBytes q m, byte x) := by
                  intro x hx
                  rcases List.mem_append.1 hx with hx | hx
                  · exact HBy.out x hx
                  · exact frd_bytes q hq1 hq5 _ m hfr x hx
                clear hfr
                go_wp2
                go_cut [10, 11] (fun s10 s11 wx => s10 = .slice (some ⟨wr.heap.size, 0, none⟩) (kSz q) (kSz q) ∧ s11 = .bool true ∧ Below wr.heap.size wr wx ∧ wr.heap.size < wx.heap.size ∧ Hid (∀ j u, (ints (kBytes q m))[j]? = some u → wx.cell? ⟨wr.heap.size, j, none⟩ = some u))
                case first =>
                  go_region_with (go_at_call 29; refine (cF _).mono ?_; rintro e w5 ⟨rfl, rfl⟩)
                  all_goals (go_wp2_with fail; go_meet)
                  all_goals exact ⟨rfl, rfl, (below_draws (Below.refl _ _) _).alloc (Nat.le_refl _) _, by simp [go_sem], fun j u h => alloc_cell (by rw [List.getElem?_toArray]; exact h)⟩
                case rest =>
                  obtain ⟨rfl, rfl, hb5, hl5, HC5⟩ := hcut
                  have hown5 := own_on hown hb5
                  have hBc : Below wi.heap.size wi wc := hBw.trans (hb5.mono hiw)
                  have hwc : wi.heap.size ≤ wc.heap.size := hBc.size
                  clear hct2 hidx hid2 hid0 hid3 hwi hget
                  have HA1 : Hid ((ints (kBytes q m)).length = kSz q * 1) := by show _ = _; rw [ints, List.length_map, kBytes_length, Nat.mul_one]
                  have HA2 : Hid (∀ j u, (ints (kBytes q m))[j]? = some u → wc.cell? ((⟨wr.heap.size, 0, none⟩ : Addr).add j) = some u) := fun j u h => by rw [Addr.add_lit, Nat.zero_add]; exact HC5.out j u h
                  have HA3 : Hid (∀ x ∈ ints (kBytes q m), x.oneCell' = true) := fun x hx => by obtain ⟨y, _, rfl⟩ := List.mem_map.1 hx; rfl
                  have HA4 : Hid (d.length + kSz q ≤ maxLen) := by show _ ≤ _; unfold maxLen; omega
                  have HA5 : Hid ((d.length + kSz q) * 1 ≤ 140737488355328) := by show _ ≤ _; omega
                  have HOW : Hid (wc.ownsRow wi.heap.size 5 1 u8 d.length (ints d)) := hown5
                  clear hown5
                  go_wp2_with (at_builtin; refine wpList_append_own_at _ rfl _ _ 48 rfl wi.heap.size 5 i0 (.int .u8 0) 1 1 Tryd.underlying48 hi hz0 hz1 hz2 rfl (by decide) u8 _ _ rfl HOW.out ⟨wr.heap.size, 0, none⟩ (kSz q) (kSz q) (ints (kBytes q m)) rfl HA1.out HA2.out HA3.out HA4.out HA5.out hwc ?_; intro v' w6 hown' hgrow hnil hloc; clear hnil hloc)
                  all_goals
                    go_roundg g2
                    case measure => omega
                    case rel =>
                      have e1 : (d ++ kBytes q m).length = d.length + kSz q := by rw [List.length_append, kBytes_length]
                      rw [ints_app, ← e1] at hown'
                      refine ⟨i + 1, ks', tl', d ++ kBytes q m, by simpa using hkl, by simpa using htl2, by omega, by go_num, hown', hBc.grown hgrow hwc (fun p e => (own_ge HOW.out e).1), by omega, ?_, HRn.out, ?_, ?_, HBn.out⟩
                      · rw [e1, show 3 - (d.length + kSz q) = 3 - d.length - kSz q by omega]; exact hft'
                      · intro j q' h; rw [show i + 1 + j = i + (j + 1) by omega]; exact HK.out (j + 1) q' (by simpa using h)
                      · intro j x h; rw [show i + 1 + j = i + (j + 1) by omega]; exact HT.out (j + 1) x (by simpa using h)
        · have HN : Hid (R = none) := by show _ = _; rw [← HRP.out, prsR_at _ ts k hk rfl, if_neg (Ne.symm hlk)]
          have hd : ((((ts.length + 1 : Nat) : Int)) == 1 + (f.size : Int)) = false := by rw [beq_eq_false_iff_ne]; omega
          have hd2 : (((ts.length : Int) + 1) == 1 + (f.size : Int)) = false := by rw [beq_eq_false_iff_ne]; omega
          clear HI
          go_wp2_with (go_at_call 23; refine (fields_any _).mono ?_; rintro e w2 ⟨rfl, rfl⟩)
          go_quiet (fail)
          go_wp2
          go_roundg g
          case measure => omega
          case rel => exact ⟨k + 1, by omega, by go_num, below_draws (hBx.alloc hqr _) _, fun _ => HN.out⟩
      · have hne := strings_ne p0 (fWord k) heq
        have HI2 : Hid ((∃ i, i < k + 1 ∧ p0 = fWord i) → R = none) := by
          rintro ⟨i, h1, h2⟩
          by_cases hik : i = k
          · subst hik; exact absurd h2 heq
          · exact HI.out ⟨i, by omega, h2⟩
        clear HI heq
        go_wp2_with (go_at_call 23; refine (fields_any _).mono ?_; rintro e w2 ⟨rfl, rfl⟩)
        go_quiet (fail)
        go_wp2
        go_roundg g
        case measure => omega
        case rel => exact ⟨k + 1, by omega, by go_num, below_draws (hBx.alloc hqr _) _, HI2⟩
end Go.Proofs.YtdneldjnkkpmoaaDoor
