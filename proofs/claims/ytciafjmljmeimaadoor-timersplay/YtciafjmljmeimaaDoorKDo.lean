/- The document's own alarms: New, Start, Stop, Left. -/
import Derived.Test.YtciafjmljmeimaaDoorKMem
namespace Go.Proofs.YtciafjmljmeimaaDoor
open Go Go.RowKit
set_option maxRecDepth 100000
set_option linter.unusedVariables false
set_option linter.unusedSimpArgs false
theorem knew_any (w : World) (B : Nat) (hB : B ≤ w.heap.size) : Calls Tryd.prog 6 #[] w fun e w' => e = .returned (.pointer (some ⟨w.heap.size, 0, none⟩)) ∧ KR B w' w.heap.size (.slice none 0 0) [] ∧ Below w.heap.size w w' := by
  go_enter Tryd.func6, Tryd.ntmps6
  go_wp2
  go_ret
  exact ⟨rfl, ⟨alloc_at w _, OwnA.nil _ _, hB, by simp⟩, alloc_below w _⟩
theorem getA_mem {xs : List Alm} {i : Nat} (h : i < xs.length) : xs.getD i (0, 0, 0) ∈ xs := by
  rw [List.getD_eq_getElem?_getD, List.getElem?_eq_getElem h]
  exact List.getElem_mem h
theorem off_step {zs : List Alm} {who : Int} {i : Nat} (h : i < zs.length) : off (zs.take (i + 1)) who = off (zs.take i) who ++ (if (zs.getD i (0, 0, 0)).1 ≠ who then [zs.getD i (0, 0, 0)] else []) := by
  unfold off
  rw [← List.take_append_getElem h, List.filter_append, List.getD_eq_getElem?_getD, List.getElem?_eq_getElem h, Option.getD_some]
  congr 1
  by_cases c : zs[i].1 = who <;> simp [c]
set_option maxHeartbeats 2000000 in
theorem kwithout_is {B : Nat} {w : World} {q : Nat} {v : Value} {zs : List Alm} (h : KR B w q v zs) (who : Int) :
    Calls Tryd.prog 21 #[.pointer (some ⟨q, 0, none⟩), .int .i64 who] w fun e w' => ∃ sp n cap, e = .returned (.slice sp n cap) ∧ OwnA w.heap.size w' (.slice sp n cap) (off zs who) ∧ Below w.heap.size w w' := by
  obtain ⟨sp, g, cap, hv, hsp, hgl, hcs⟩ := h.seq
  subst hv
  have hlk := h.lnk
  have hlen := h.len
  have hql := at_lt h.head
  have HCS : Hid (∀ k, k < zs.length → w.cell? ⟨g, k * 3, none⟩ = some (.int .i64 (zs.getD k (0, 0, 0)).1) ∧ w.cell? ⟨g, k * 3 + 1, none⟩ = some (.int .i64 (zs.getD k (0, 0, 0)).2.1) ∧ w.cell? ⟨g, k * 3 + 2, none⟩ = some (.int .i64 (zs.getD k (0, 0, 0)).2.2)) := hcs
  clear h hcs
  obtain ⟨n, hn⟩ : ∃ n, zs.length = n := ⟨_, rfl⟩
  rw [hn] at hlk hlen hsp HCS
  have HN : Hid (zs.length = n) := hn
  clear hn
  go_enter Tryd.func21, Tryd.ntmps21
  go_wp2
  go_loopg [5, 6] n (fun gk s5 s6 wx => ∃ (i : Nat) (rs : Option Addr) (rn rc : Nat), i + gk = n ∧ s5 = .slice rs rn rc ∧ s6 = .int .i64 (i : Int) ∧ Hid (OwnA w.heap.size wx (.slice rs rn rc) (off (zs.take i) who)) ∧ Hid (Below w.heap.size w wx))
  case atStart => exact ⟨0, none, 0, 0, by omega, rfl, rfl, OwnA.nil _ _, Below.refl _ _⟩
  case round =>
    obtain ⟨i, rs, rn, rc, hig, rfl, rfl, HR, HBl⟩ := hrel
    have hlk' := (HBl.out.cell (p := ⟨q, 0, none⟩) hql).trans hlk
    clear hlk
    cases gk with
    | zero =>
      obtain rfl : i = n := by omega
      have hlt : ¬ ((i : Int) < i) := by omega
      go_wp2
      go_ret
      refine ⟨rs, rn, rc, rfl, ?_, HBl.out⟩
      have := HR.out
      rw [List.take_of_length_le (by rw [HN.out]; exact Nat.le_refl _)] at this
      exact this
    | succ g' =>
      have hlt : (i : Int) < n := by omega
      have hin : i < n := by omega
      obtain rfl := hsp (by omega)
      obtain ⟨c0, c1, c2⟩ := HCS.out i hin
      have d0 := (HBl.out.cell (p := ⟨g, i * 3, none⟩) hgl).trans c0
      have d1 := (HBl.out.cell (p := ⟨g, i * 3 + 1, none⟩) hgl).trans c1
      have d2 := (HBl.out.cell (p := ⟨g, i * 3 + 2, none⟩) hgl).trans c2
      have hst := off_step (zs := zs) (who := who) (i := i) (by rw [HN.out]; exact hin)
      obtain ⟨⟨a, t, e⟩, hy⟩ : ∃ y, zs.getD i (0, 0, 0) = y := ⟨_, rfl⟩
      rw [hy] at d0 d1 d2 hst
      simp only at d0 d1 d2
      have HST : Hid (off (zs.take (i + 1)) who = off (zs.take i) who ++ (if a ≠ who then [(a, t, e)] else [])) := hst
      clear hst hy c0 c1 c2 hsp
      by_cases hw : a = who
      · subst hw
        go_wp2
        go_roundg g'
        case measure => omega
        case rel => exact ⟨i + 1, _, _, _, by omega, rfl, by go_num, by have := HST.out; rw [if_neg (by simp), List.append_nil] at this; show OwnA _ _ _ _; rw [this]; exact HR.out, HBl.out⟩
      · have hrl : (off (zs.take i) who).length = rn ∧ rn ≤ 1000 := by
          obtain ⟨sp', c', e', _⟩ := HR.out.form
          simp only [Value.slice.injEq] at e'
          have := off_len (zs.take i) who
          rw [List.length_take] at this
          have h2 := HN.out
          exact ⟨e'.2.1.symm, by omega⟩
        have HRL : Hid ((off (zs.take i) who).length = rn ∧ rn ≤ 1000) := hrl
        clear hrl
        have hb1 := alloc_below wr (.cells #[.int .i64 a, .int .i64 t, .int .i64 e] 60)
        have HCC : Hid (Arg3 (wr.alloc (.cells #[.int .i64 a, .int .i64 t, .int .i64 e] 60)) wr.heap.size (a, t, e)) := ⟨_, alloc_at wr _⟩
        have HR2 : Hid (OwnA w.heap.size (wr.alloc (.cells #[.int .i64 a, .int .i64 t, .int .i64 e] 60)) (.slice rs rn rc) (off (zs.take i) who)) := HR.out.below hb1
        have HB2 : Hid (Below w.heap.size w (wr.alloc (.cells #[.int .i64 a, .int .i64 t, .int .i64 e] 60))) := HBl.out.trans (hb1.mono HBl.out.size)
        clear hb1
        go_wp2_with (at_builtin; refine wpList_aapp (B := w.heap.size) rfl (.tmp 26) (.tmp 34) rfl rfl rfl HR2.out HRL.out.1 (by have := HRL.out.2; omega) HCC.out HB2.out.size ?_; intro g5 c5 w5 HO5 HB5 HG5)
        have hbb : Buts (Value.slice rs rn rc).ownBlock.toList _ w5 := HB5.out
        go_roundg g'
        case measure => omega
        case rel => exact ⟨i + 1, _, _, _, by omega, rfl, by go_num, by have := HST.out; rw [if_pos hw] at this; show OwnA _ _ _ _; rw [this]; exact HO5.out, HB2.out.trans (hbb.below (fun x hx => (HR2.out.lt' (g := x) (by simpa using hx)).1) HB2.out.size)⟩
set_option maxHeartbeats 2000000 in
theorem kleft_is {B : Nat} {w : World} {q : Nat} {v : Value} {zs : List Alm} (h : KR B w q v zs) (hf : Fine zs) (who : Int) :
    Calls Tryd.prog 16 #[.pointer (some ⟨q, 0, none⟩), .int .i64 who] w fun e w' => e = .returned (.int .i64 (leftA zs who)) ∧ w = w' := by
  obtain ⟨sp, g, cap, hv, hsp, hgl, hcs⟩ := h.seq
  subst hv
  have hlk := h.lnk
  have hlen := h.len
  have HCS : Hid (∀ k, k < zs.length → w.cell? ⟨g, k * 3, none⟩ = some (.int .i64 (zs.getD k (0, 0, 0)).1) ∧ w.cell? ⟨g, k * 3 + 1, none⟩ = some (.int .i64 (zs.getD k (0, 0, 0)).2.1) ∧ w.cell? ⟨g, k * 3 + 2, none⟩ = some (.int .i64 (zs.getD k (0, 0, 0)).2.2)) := hcs
  have HL : Hid (∀ k, k < zs.length → (zs.getD k (0, 0, 0)).1 = who → leftA zs who = (zs.getD k (0, 0, 0)).2.1) := fun k hk e => by
    have := leftV_at (y := wl (zs.getD k (0, 0, 0))) hf.good.keys (List.mem_map.2 ⟨_, getA_mem hk, rfl⟩)
    rw [← e]
    exact this
  have HZ : Hid ((∀ k, k < zs.length → (zs.getD k (0, 0, 0)).1 ≠ who) → leftA zs who = 0) := fun hno => by
    refine leftV_no ?_
    cases hh : has (two zs) who with
    | false => rfl
    | true =>
      obtain ⟨z, hz, e⟩ := has_two.1 hh
      obtain ⟨i, hi, e2⟩ := List.getElem_of_mem hz
      refine absurd ?_ (hno i hi)
      rw [List.getD_eq_getElem?_getD, List.getElem?_eq_getElem hi, Option.getD_some, e2]
      exact e
  clear h hcs hf
  obtain ⟨n, hn⟩ : ∃ n, zs.length = n := ⟨_, rfl⟩
  rw [hn] at hlk hlen hsp HCS HL HZ
  clear hn
  go_enter Tryd.func16, Tryd.ntmps16
  go_wp2
  go_loopg [5] n (fun gk s5 wx => ∃ i : Nat, i + gk = n ∧ s5 = .int .i64 (i : Int) ∧ Hid (∀ k, k < i → (zs.getD k (0, 0, 0)).1 ≠ who) ∧ w = wx)
  case atStart => exact ⟨0, by omega, rfl, fun k hk => by omega, rfl⟩
  case round =>
    obtain ⟨i, hig, rfl, HNo, rfl⟩ := hrel
    cases gk with
    | zero =>
      obtain rfl : i = n := by omega
      have hlt : ¬ ((i : Int) < i) := by omega
      go_wp2
      go_ret
      exact ⟨by rw [HZ.out HNo.out]; rfl, rfl⟩
    | succ g' =>
      have hlt : (i : Int) < n := by omega
      have hin : i < n := by omega
      obtain rfl := hsp (by omega)
      obtain ⟨d0, d1, d2⟩ := HCS.out i hin
      have hL := HL.out i hin
      have hS : (zs.getD i (0, 0, 0)).1 ≠ who → ∀ k, k < i + 1 → (zs.getD k (0, 0, 0)).1 ≠ who := fun hne k hk => by
        rcases Nat.lt_or_ge k i with c | c
        · exact HNo.out k c
        · obtain rfl : k = i := by omega
          exact hne
      obtain ⟨⟨a, t, e⟩, hy⟩ : ∃ y, zs.getD i (0, 0, 0) = y := ⟨_, rfl⟩
      rw [hy] at d0 d1 d2 hL hS
      simp only at d0 d1 d2 hL hS
      have HS : Hid (a ≠ who → ∀ k, k < i + 1 → (zs.getD k (0, 0, 0)).1 ≠ who) := hS
      have HLL : Hid (a = who → leftA zs who = t) := hL
      clear hL hS hy d2 hsp
      by_cases hw : a = who
      · have HL1 : Hid (leftA zs who = t) := HLL.out hw
        subst hw
        go_wp2
        go_ret
        exact ⟨by rw [HL1.out]; rfl, rfl⟩
      · go_wp2
        go_roundg g'
        case measure => omega
        case rel => exact ⟨i + 1, by omega, by go_num, HS.out hw, rfl⟩
set_option maxHeartbeats 1000000 in
theorem kstop_is {B : Nat} {w : World} {q : Nat} {v : Value} {zs : List Alm} (h : KR B w q v zs) (hf : Fine zs) (who : Int) (hB : B ≤ w.heap.size) :
    Calls Tryd.prog 10 #[.pointer (some ⟨q, 0, none⟩), .int .i64 who] w fun e w' => e = .returned (.int .i64 (stopE zs who)) ∧ RN B w w' q v (off zs who) := by
  have HL : Hid (KR B w q v zs) := h
  have HB : Hid (B ≤ w.heap.size) := hB
  by_cases hh : has (two zs) who = true
  · have e : stopE zs who = 0 := by simp [stopE, hh]
    rw [e]
    have hq := h.head
    have HK : Hid (Calls Tryd.prog 16 #[.pointer (some ⟨q, 0, none⟩), .int .i64 who] w fun e w' => e = .returned (.int .i64 (leftA zs who)) ∧ w = w') := kleft_is h hf who
    have hl : ¬ leftA zs who = 0 := by
      obtain ⟨z, hz, e⟩ := has_two.1 hh
      have h1 := leftV_at (y := wl z) hf.good.keys (List.mem_map.2 ⟨z, hz, rfl⟩)
      have h2 := hf.lo hz
      have h3 : leftA zs who = z.2.1 := by rw [← e]; exact h1
      omega
    generalize leftA zs who = l at *
    have HW : Hid (Calls Tryd.prog 21 #[.pointer (some ⟨q, 0, none⟩), .int .i64 who] w fun e w' => ∃ sp n cap, e = .returned (.slice sp n cap) ∧ OwnA w.heap.size w' (.slice sp n cap) (off zs who) ∧ Below w.heap.size w w') := kwithout_is h who
    have HQ : Hid (w.heap[q]? = some (.cells #[v] 56 (0, 0))) := hq
    clear h hf hh e hB hq
    go_enter Tryd.func10, Tryd.ntmps10
    go_wp2_with (first
      | (go_at_call 16; refine HK.out.mono ?_; rintro e w' ⟨rfl, rfl⟩)
      | (go_at_call 21; refine HW.out.mono ?_; rintro e w1 ⟨sp, n, cap, rfl, ho, hb⟩; have hfr : w1.frozen? ⟨q, 0, none⟩ = false := (by have := (hb.block q (at_lt HQ.out)).trans HQ.out; simp [World.frozen?, this]); have hc0 : w1.cell? ⟨q, 0, none⟩ = some v := (by rw [cell_of ((hb.block q (at_lt HQ.out)).trans HQ.out)]; rfl); have HO : Hid (OwnA w.heap.size w1 (.slice sp n cap) (off zs who) ∧ Below w.heap.size w w1) := ⟨ho, hb⟩; clear ho hb))
    go_ret
    exact ⟨rfl, HL.out.lay HO.out.1 HO.out.2 (by have := off_len zs who; have := HL.out.len; omega) HB.out⟩
  · have hh' : has (two zs) who = false := by simpa using hh
    have e : stopE zs who = 7 := by simp [stopE, hh']
    rw [e, off_not hh']
    have HK : Hid (Calls Tryd.prog 16 #[.pointer (some ⟨q, 0, none⟩), .int .i64 who] w fun e w' => e = .returned (.int .i64 0) ∧ w = w') := by
      have := kleft_is h hf who
      rw [show leftA zs who = 0 from leftV_no hh'] at this
      exact this
    clear h hf hh hh' e
    go_enter Tryd.func10, Tryd.ntmps10
    go_wp2_with (go_at_call 16; refine HK.out.mono ?_; rintro e w' ⟨rfl, rfl⟩)
    go_ret
    exact ⟨rfl, HL.out.next (Below.refl _ _)⟩
set_option maxHeartbeats 2000000 in
theorem kstart_is {B : Nat} {w : World} {q : Nat} {v : Value} {zs : List Alm} (h : KR B w q v zs) (who i e : Int) (hl : zs.length < 1000) (hB : B ≤ w.heap.size) :
    Calls Tryd.prog 8 #[.pointer (some ⟨q, 0, none⟩), .int .i64 who, .int .i64 i, .int .i64 e] w fun x w' => x = .returned (.int .i64 (startE who i e)) ∧ RN B w w' q v (startL zs who i e) := by
  have HL : Hid (KR B w q v zs) := h
  have HB : Hid (B ≤ w.heap.size ∧ zs.length < 1000) := ⟨hB, hl⟩
  have HB0 : Hid (RN B w w q v zs) := h.next (Below.refl _ _)
  by_cases h1 : who < 0
  · have ee : startE who i e = 1 := by simp [startE, h1]
    have el : startL zs who i e = zs := by simp [startL, ee]
    rw [ee, el]
    clear h ee el
    go_enter Tryd.func8, Tryd.ntmps8
    go_wp2
    go_ret
    exact ⟨rfl, HB0.out⟩
  · by_cases hb : badT i e
    · have ee : startE who i e = 4 := by simp [startE, h1, hb]
      have el : startL zs who i e = zs := by simp [startL, ee]
      rw [ee, el]
      clear h ee el
      by_cases h2 : i < 1
      · clear hb
        go_enter Tryd.func8, Tryd.ntmps8
        go_wp2
        go_ret
        exact ⟨rfl, HB0.out⟩
      · by_cases h3 : 1073741824 < i
        · clear hb
          go_enter Tryd.func8, Tryd.ntmps8
          go_wp2
          go_ret
          exact ⟨rfl, HB0.out⟩
        · by_cases h4 : e < 0
          · clear hb
            go_enter Tryd.func8, Tryd.ntmps8
            go_wp2
            go_ret
            exact ⟨rfl, HB0.out⟩
          · have h5 : 1073741824 < e := by unfold badT at hb; omega
            clear hb
            go_enter Tryd.func8, Tryd.ntmps8
            go_wp2
            go_ret
            exact ⟨rfl, HB0.out⟩
    · have ee : startE who i e = 0 := by simp [startE, h1, hb]
      have el : startL zs who i e = off zs who ++ [(who, i, e)] := by simp [startL, ee]
      rw [ee, el]
      have h2 : ¬ i < 1 := fun h => hb (Or.inl h)
      have h3 : ¬ 1073741824 < i := fun h => hb (Or.inr (Or.inl h))
      have h4 : ¬ e < 0 := fun h => hb (Or.inr (Or.inr (Or.inl h)))
      have h5 : ¬ 1073741824 < e := fun h => hb (Or.inr (Or.inr (Or.inr h)))
      have HW : Hid (Calls Tryd.prog 21 #[.pointer (some ⟨q, 0, none⟩), .int .i64 who] w fun e w' => ∃ sp n cap, e = .returned (.slice sp n cap) ∧ OwnA w.heap.size w' (.slice sp n cap) (off zs who) ∧ Below w.heap.size w w') := kwithout_is h who
      have HQ : Hid (w.heap[q]? = some (.cells #[v] 56 (0, 0))) := h.head
      have HX : Hid (∀ (w1 : World) (sp : Option Addr) (n cap : Nat), OwnA w.heap.size w1 (.slice sp n cap) (off zs who) → Below w.heap.size w w1 →
          OwnA w.heap.size (w1.alloc (.cells #[.int .i64 who, .int .i64 i, .int .i64 e] 60)) (.slice sp n cap) (off zs who) ∧ (off zs who).length = n ∧ n ≤ 2000 ∧ Arg3 (w1.alloc (.cells #[.int .i64 who, .int .i64 i, .int .i64 e] 60)) w1.heap.size (who, i, e) ∧ w.heap.size ≤ (w1.alloc (.cells #[.int .i64 who, .int .i64 i, .int .i64 e] 60)).heap.size ∧ Below w.heap.size w (w1.alloc (.cells #[.int .i64 who, .int .i64 i, .int .i64 e] 60))) := fun w1 sp n cap ho hb => by
        obtain ⟨sp', c', e', _⟩ := ho.form
        simp only [Value.slice.injEq] at e'
        have hb1 := alloc_below w1 (.cells #[.int .i64 who, .int .i64 i, .int .i64 e] 60)
        have hb2 := hb.trans (hb1.mono hb.size)
        exact ⟨ho.below hb1, e'.2.1.symm, by rw [e'.2.1]; have := off_len zs who; have := HL.out.len; omega, ⟨_, alloc_at w1 _⟩, hb2.size, hb2⟩
      clear h ee el hb hB hl HB0
      go_enter Tryd.func8, Tryd.ntmps8
      go_wp2_with (first
        | (go_at_call 21; refine HW.out.mono ?_; rintro x w1 ⟨sp, n, cap, rfl, ho, hb⟩; have HO := HX.out w1 sp n cap ho hb; have HO2 : Hid (OwnA w.heap.size (w1.alloc (.cells #[.int .i64 who, .int .i64 i, .int .i64 e] 60)) (.slice sp n cap) (off zs who) ∧ (off zs who).length = n ∧ n ≤ 2000 ∧ Arg3 (w1.alloc (.cells #[.int .i64 who, .int .i64 i, .int .i64 e] 60)) w1.heap.size (who, i, e) ∧ w.heap.size ≤ (w1.alloc (.cells #[.int .i64 who, .int .i64 i, .int .i64 e] 60)).heap.size ∧ Below w.heap.size w (w1.alloc (.cells #[.int .i64 who, .int .i64 i, .int .i64 e] 60))) := HO; clear HO ho hb HX)
        | (at_builtin; refine wpList_aapp (B := w.heap.size) (v := .slice sp n cap) rfl (.tmp 28) (.tmp 33) rfl rfl rfl HO2.out.1 HO2.out.2.1 HO2.out.2.2.1 HO2.out.2.2.2.1 HO2.out.2.2.2.2.1 ?_; intro g5 c5 w5 HO5 HB5 HG5; have HBB : Hid (Below w.heap.size w w5) := (show Below w.heap.size w w5 from HO2.out.2.2.2.2.2.trans (Buts.below HB5.out (fun x hx => (HO2.out.1.lt' (g := x) (by simpa using hx)).1) HO2.out.2.2.2.2.1)); have hfr : w5.frozen? ⟨q, 0, none⟩ = false := (by have := (HBB.out.block q (at_lt HQ.out)).trans HQ.out; simp [World.frozen?, this]); have hc0 : w5.cell? ⟨q, 0, none⟩ = some v := (by rw [cell_of ((HBB.out.block q (at_lt HQ.out)).trans HQ.out)]; rfl)))
      go_ret
      exact ⟨rfl, HL.out.lay HO5.out HBB.out (by rw [List.length_append]; have := off_len zs who; have := HB.out.2; simp; omega) HB.out.1⟩
end Go.Proofs.YtciafjmljmeimaaDoor
