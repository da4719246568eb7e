/- The document's own alarms: Tick. -/
import Derived.Test.YtciafjmljmeimaaDoorKDo
namespace Go.Proofs.YtciafjmljmeimaaDoor
open Go Go.RowKit
set_option maxRecDepth 100000
set_option linter.unusedVariables false
set_option linter.unusedSimpArgs false
/-- what is kept while they are gone through: those that come, those that stay, those that come again -/
structure TS (b : Nat) (w wx : World) (pre : List Alm) (us : Option Addr) (un uc : Nat) (rs : Option Addr) (rn rc : Nat) (gs : Option Addr) (an ac : Nat) : Prop where
  du : wx.ownsRow b 3 1 (.slice us un uc) un (num ((due pre).map Prod.fst))
  st : OwnA b wx (.slice rs rn rc) (stay pre)
  ag : OwnA b wx (.slice gs an ac) (agn (due pre))
  sep : ∀ g, (Value.slice rs rn rc).ownBlock = some g → (Value.slice gs an ac).ownBlock ≠ some g
  bel : Below b w wx
theorem TS.below {b : Nat} {w wx w' : World} {pre : List Alm} {us rs gs : Option Addr} {un uc rn rc an ac : Nat} (h : TS b w wx pre us un uc rs rn rc gs an ac) (hb : Below wx.heap.size wx w') (hz : b ≤ wx.heap.size) : TS b w w' pre us un uc rs rn rc gs an ac :=
  ⟨owns_below h.du hb, h.st.below hb, h.ag.below hb, h.sep, h.bel.trans (hb.mono hz)⟩
theorem TS.lens {b : Nat} {w wx : World} {pre : List Alm} {us rs gs : Option Addr} {un uc rn rc an ac : Nat} (h : TS b w wx pre us un uc rs rn rc gs an ac) : ((due pre).map Prod.fst).length = un ∧ (stay pre).length = rn ∧ (agn (due pre)).length = an := by
  refine ⟨?_, ?_, ?_⟩
  · have := h.du.1
    rw [num_len, Nat.mul_one] at this
    exact this
  · obtain ⟨sp', c', e', _⟩ := h.st.form
    simp only [Value.slice.injEq] at e'
    exact e'.2.1.symm
  · obtain ⟨sp', c', e', _⟩ := h.ag.form
    simp only [Value.slice.injEq] at e'
    exact e'.2.1.symm
theorem stay_no {pre : List Alm} {x : Alm} (h : x.2.1 = 1) : stay (pre ++ [x]) = stay pre := by
  unfold stay
  rw [List.filter_append]
  simp [h]
theorem stay_yes {pre : List Alm} {x : Alm} (h : x.2.1 ≠ 1) : stay (pre ++ [x]) = stay pre ++ [nxt x] := by
  unfold stay
  rw [List.filter_append, List.map_append]
  simp [h]
theorem due_no {pre : List Alm} {x : Alm} (h : x.2.1 ≠ 1) : due (pre ++ [x]) = due pre := by
  unfold due
  rw [List.filter_append]
  simp [h]
theorem due_yes {pre : List Alm} {x : Alm} (h : x.2.1 = 1) : due (pre ++ [x]) = due pre ++ [x] := by
  unfold due
  rw [List.filter_append]
  simp [h]
theorem agn_no {ds : List Alm} {x : Alm} (h : ¬ 0 < x.2.2) : agn (ds ++ [x]) = agn ds := by
  unfold agn
  rw [List.filter_append]
  simp [h]
theorem agn_yes {ds : List Alm} {x : Alm} (h : 0 < x.2.2) : agn (ds ++ [x]) = agn ds ++ [ag x] := by
  unfold agn
  rw [List.filter_append, List.map_append]
  simp [h]
theorem TS.stays {b : Nat} {w wx w' : World} {pre : List Alm} {us rs gs : Option Addr} {un uc rn rc an ac g c : Nat} {x : Alm} (h : TS b w wx pre us un uc rs rn rc gs an ac) (hz : b ≤ wx.heap.size) (hx : x.2.1 ≠ 1)
    (ho : OwnA b w' (.slice (some ⟨g, 0, none⟩) (rn + 1) c) (stay pre ++ [nxt x])) (hb : Buts (Value.slice rs rn rc).ownBlock.toList wx w') (hg : (Value.slice rs rn rc).ownBlock = some g ∨ wx.heap.size ≤ g) : TS b w w' (pre ++ [x]) us un uc (some ⟨g, 0, none⟩) (rn + 1) c gs an ac := by
  refine ⟨?_, by rw [stay_yes hx]; exact ho, ?_, fun g' hg' ha => ?_, h.bel.trans (hb.below (fun y hy => (h.st.lt' (g := y) (by simpa using hy)).1) hz)⟩
  · rw [due_no hx]
    exact owns_buts h.du hb (fun y hy hm => own_ne h.du hy h.st (H := y) (by simpa using hm) (by decide) rfl)
  · rw [due_no hx]
    exact h.ag.buts hb (fun y hy hm => h.sep y (by simpa using hm) hy)
  · obtain rfl : g = g' := by simpa [Value.ownBlock] using hg'
    rcases hg with e | e
    · exact h.sep g e ha
    · have := (h.ag.lt' ha).2; omega
theorem TS.comes {b : Nat} {w wx w' : World} {pre : List Alm} {us rs gs : Option Addr} {un uc rn rc an ac g c : Nat} {x : Alm} (h : TS b w wx pre us un uc rs rn rc gs an ac) (hz : b ≤ wx.heap.size) (hx : x.2.1 = 1) (he : ¬ 0 < x.2.2)
    (ho : w'.ownsRow b 3 1 (.slice (some ⟨g, 0, none⟩) (un + 1) c) (un + 1) (num ((due pre).map Prod.fst ++ [x.1]))) (hb : Buts (Value.slice us un uc).ownBlock.toList wx w') : TS b w w' (pre ++ [x]) (some ⟨g, 0, none⟩) (un + 1) c rs rn rc gs an ac := by
  refine ⟨by rw [due_yes hx, List.map_append]; exact ho, ?_, ?_, h.sep, h.bel.trans (hb.below (fun y hy => (h.du.lt y (by simpa using hy)).1) hz)⟩
  · rw [stay_no hx]
    exact h.st.buts hb (fun y hy hm => own_ne h.st hy h.du (H := y) (by simpa using hm) (by decide) rfl)
  · rw [due_yes hx, agn_no he]
    exact h.ag.buts hb (fun y hy hm => own_ne h.ag hy h.du (H := y) (by simpa using hm) (by decide) rfl)
theorem TS.again {b : Nat} {w wx w1 w2 : World} {pre : List Alm} {us rs gs : Option Addr} {un uc rn rc an ac g c g2 c2 : Nat} {x : Alm} (h : TS b w wx pre us un uc rs rn rc gs an ac) (hz : b ≤ wx.heap.size) (hx : x.2.1 = 1) (he : 0 < x.2.2)
    (ho : w1.ownsRow b 3 1 (.slice (some ⟨g, 0, none⟩) (un + 1) c) (un + 1) (num ((due pre).map Prod.fst ++ [x.1]))) (hst : OwnA b w1 (.slice rs rn rc) (stay pre)) (hag : OwnA b w1 (.slice gs an ac) (agn (due pre))) (hz1 : b ≤ w1.heap.size) (hbl : Below b w w1)
    (ho2 : OwnA b w2 (.slice (some ⟨g2, 0, none⟩) (an + 1) c2) (agn (due pre) ++ [Go.Proofs.YtciafjmljmeimaaDoor.ag x])) (hb2 : Buts (Value.slice gs an ac).ownBlock.toList w1 w2) (hg2 : (Value.slice gs an ac).ownBlock = some g2 ∨ w1.heap.size ≤ g2) : TS b w w2 (pre ++ [x]) (some ⟨g, 0, none⟩) (un + 1) c rs rn rc (some ⟨g2, 0, none⟩) (an + 1) c2 := by
  refine ⟨?_, ?_, by rw [due_yes hx, agn_yes he]; exact ho2, fun g' hg' ha => ?_, hbl.trans (hb2.below (fun y hy => (hag.lt' (g := y) (by simpa using hy)).1) hz1)⟩
  · rw [due_yes hx, List.map_append]
    exact owns_buts ho hb2 (fun y hy hm => own_ne ho hy hag (H := y) (by simpa using hm) (by decide) rfl)
  · rw [stay_no hx]
    exact hst.buts hb2 (fun y hy hm => h.sep y hy (by simpa using hm))
  · obtain rfl : g2 = g' := by simpa [Value.ownBlock] using ha
    rcases hg2 with e | e
    · exact h.sep g2 hg' e
    · have := (hst.lt' hg').2; omega
theorem takeA_snoc {ys : List Alm} {i : Nat} (hi : i < ys.length) : ys.take (i + 1) = ys.take i ++ [ys.getD i (0, 0, 0)] := by
  rw [List.take_add_one, List.getElem?_eq_getElem hi, List.getD_eq_getElem?_getD, List.getElem?_eq_getElem hi]
  rfl
set_option maxHeartbeats 4000000 in
theorem ktick_is {B : Nat} {w : World} {q : Nat} {v : Value} {zs : List Alm} (h : KR B w q v zs) (hf : Fine zs) (hB : B ≤ w.heap.size) :
    Calls Tryd.prog 13 #[.pointer (some ⟨q, 0, none⟩)] w fun e w' => ∃ us uc, e = .returned (.slice us (due zs).length uc) ∧ w'.ownsRow w.heap.size 3 1 (.slice us (due zs).length uc) (due zs).length (num ((due zs).map Prod.fst)) ∧ RN B w w' q v (tickL zs) := by
  have HL : Hid (KR B w q v zs) := h
  obtain ⟨sp, g, cap, hv, hsp, hgl, hcs⟩ := h.seq
  subst hv
  have hlk := h.lnk
  have hlen := h.len
  have hql := at_lt h.head
  have HCS : Hid (∀ k, k < zs.length → w.cell? ⟨g, k * 3, none⟩ = some (.int .i64 (zs.getD k (0, 0, 0)).1) ∧ w.cell? ⟨g, k * 3 + 1, none⟩ = some (.int .i64 (zs.getD k (0, 0, 0)).2.1) ∧ w.cell? ⟨g, k * 3 + 2, none⟩ = some (.int .i64 (zs.getD k (0, 0, 0)).2.2)) := hcs
  have HF : Hid (Fine zs) := hf
  have HB : Hid (B ≤ w.heap.size) := hB
  clear h hcs hB hf
  obtain ⟨n, hn⟩ : ∃ n, zs.length = n := ⟨_, rfl⟩
  rw [hn] at hlk hlen hsp HCS HL
  have HN : Hid (zs.length = n) := hn
  clear hn
  obtain ⟨b, hb⟩ : ∃ b, w.heap.size = b := ⟨_, rfl⟩
  have HBZ : Hid (w.heap.size = b) := hb
  have HT0 : Hid (TS b w w [] none 0 0 none 0 0 none 0 0) := ⟨World.ownsRow_nil _ _ _ _, OwnA.nil _ _, OwnA.nil _ _, fun g hg => by simp [Value.ownBlock] at hg, Below.refl _ _⟩
  rw [hb] at hgl hql ⊢
  clear hb
  go_enter Tryd.func13, Tryd.ntmps13
  go_wp2
  go_loopg [3, 4, 5, 6, 7] n (fun gk s3 s4 s5 s6 s7 wx => ∃ (i : Nat) (us rs gs : Option Addr) (un uc rn rc an ac : Nat), i + gk = n ∧ s3 = .slice us un uc ∧ s4 = .slice rs rn rc ∧ s5 = .slice gs an ac ∧ s6 = .int .i64 (i : Int) ∧ Hid (TS b w wx (zs.take i) us un uc rs rn rc gs an ac))
  case atStart => exact ⟨0, none, none, none, 0, 0, 0, 0, 0, 0, by omega, rfl, rfl, rfl, rfl, HT0.out⟩
  case round =>
    clear HT0
    obtain ⟨i, us, rs, gs, un, uc, rn, rc, an, ac, hig, rfl, rfl, rfl, rfl, HT⟩ := hrel
    have hlk' := (HT.out.bel.cell (p := ⟨q, 0, none⟩) hql).trans hlk
    clear hlk
    have HZ : Hid (b ≤ wr.heap.size) := by have := HT.out.bel.size; have := HBZ.out; show _ ≤ _; omega
    cases gk with
    | zero =>
      obtain rfl : i = n := by omega
      have hlt : ¬ ((i : Int) < i) := by omega
      have hq' : wr.heap[q]? = some (.cells #[.slice sp i cap] 56 (0, 0)) := (HT.out.bel.block q (by have := HBZ.out; omega)).trans HL.out.head
      have hfin : zs.take i = zs := List.take_of_length_le (by rw [HN.out]; exact Nat.le_refl _)
      have HT2 : Hid (TS b w wr zs us un uc rs rn rc gs an ac) := by have := HT.out; rw [hfin] at this; exact this
      have HQ : Hid (wr.heap[q]? = some (.cells #[.slice sp i cap] 56 (0, 0))) := hq'
      have HLE : Hid ((stay zs).length + (agn (due zs)).length ≤ 1000) := by have := tick_len zs; unfold tickL at this; rw [List.length_append] at this; have := HN.out; show _ ≤ _; omega
      clear hfin hq' HT
      go_wp2_with (at_builtin; refine wpList_arow (B := b) (C := b) (v := .slice rs rn rc) (u := .slice gs an ac) rfl (.tmp 51) (.tmp 52) rfl rfl rfl HT2.out.st HT2.out.ag (by have := HLE.out; omega) HZ.out ?_; intro sp5 n5 c5 w5 HO5 HB5; have HBB : Hid (Below b w w5) := (show Below b w w5 from HT2.out.bel.trans (Buts.below HB5.out (fun x hx => (HT2.out.st.lt' (g := x) (by simpa using hx)).1) HZ.out)); have hfr : w5.frozen? ⟨q, 0, none⟩ = false := (by have := (HBB.out.block q hql).trans HL.out.head; simp [World.frozen?, this]); have hc0 : w5.cell? ⟨q, 0, none⟩ = some (.slice sp i cap) := (by rw [cell_of ((HBB.out.block q hql).trans HL.out.head)]; rfl))
      go_ret
      have hun := HT2.out.lens.1
      rw [List.length_map] at hun
      subst hun
      have hbz := HBZ.out
      subst hbz
      have hnn := HN.out
      subst hnn
      refine ⟨us, uc, rfl, ?_, HL.out.lay HO5.out HBB.out (by unfold tickL; rw [List.length_append]; exact HLE.out) HB.out⟩
      refine owns_buts (owns_buts HT2.out.du HB5.out (fun y hy hm => own_ne HT2.out.du hy HT2.out.st (H := y) (by simpa using hm) (by decide) rfl)) (Buts.cell _ _ _ _) (fun g' hg' hm => ?_)
      obtain rfl : g' = q := by simpa using hm
      have := (HT2.out.du.lt g' hg').1
      omega
    | succ g' =>
      have hlt : (i : Int) < n := by omega
      have hin : i < n := by omega
      obtain rfl := hsp (by omega)
      obtain ⟨c0, c1, c2⟩ := HCS.out i hin
      have d0 := (HT.out.bel.cell (p := ⟨g, i * 3, none⟩) hgl).trans c0
      have d1 := (HT.out.bel.cell (p := ⟨g, i * 3 + 1, none⟩) hgl).trans c1
      have d2 := (HT.out.bel.cell (p := ⟨g, i * 3 + 2, none⟩) hgl).trans c2
      have hT := takeA_snoc (ys := zs) (i := i) (by rw [HN.out]; exact hin)
      have hfa := HF.out.all (getA_mem (xs := zs) (i := i) (by rw [HN.out]; exact hin))
      obtain ⟨⟨a, t, e⟩, hy⟩ : ∃ y, zs.getD i (0, 0, 0) = y := ⟨_, rfl⟩
      rw [hy] at d0 d1 d2 hT hfa
      simp only at d0 d1 d2 hfa
      have HTT : Hid (zs.take (i + 1) = zs.take i ++ [(a, t, e)]) := hT
      obtain ⟨_, _, ht1, ht2, he1, he2⟩ := hfa
      clear hT hy c0 c1 c2 hsp
      have hwt : IntKind.i64.wrap (t - 1) = t - 1 := by rw [IntKind.wrap_i64]; omega
      have HLE : Hid (((due (zs.take i)).map Prod.fst).length = un ∧ (stay (zs.take i)).length = rn ∧ (agn (due (zs.take i))).length = an ∧ un ≤ 1000 ∧ rn ≤ 1000 ∧ an ≤ 1000) := by
        obtain ⟨h1, h2, h3⟩ := HT.out.lens
        have h4 : (zs.take i).length ≤ 1000 := by rw [List.length_take]; omega
        have h5 := tick_len (zs.take i)
        unfold tickL at h5
        rw [List.length_append] at h5
        have h6 := due_len (zs.take i)
        rw [List.length_map] at h1
        exact ⟨by rw [List.length_map]; exact h1, h2, h3, by omega, by omega, by omega⟩
      obtain ⟨X, hX⟩ : ∃ X, wr.heap.size = X := ⟨_, rfl⟩
      by_cases h1 : t = 1
      · subst h1
        have hb1 := alloc_below wr (.cells #[.int .i64 a, .int .i64 0, .int .i64 e] 60)
        have hb2 := hb1.trans ((alloc_below (wr.alloc (.cells #[.int .i64 a, .int .i64 0, .int .i64 e] 60)) (.cells #[.int .i64 a] 3)).mono hb1.size)
        have hc := alloc_at (wr.alloc (.cells #[.int .i64 a, .int .i64 0, .int .i64 e] 60)) (.cells #[.int .i64 a] 3)
        rw [alloc_size, hX] at hc
        have HCC : Hid (((wr.alloc (.cells #[.int .i64 a, .int .i64 0, .int .i64 e] 60)).alloc (.cells #[.int .i64 a] 3)).cell? ⟨X + 1, 0, none⟩ = some (.int .i64 a)) := by show _ = _; rw [cell_of hc]; rfl
        have hxx : ((wr.alloc (.cells #[.int .i64 a, .int .i64 0, .int .i64 e] 60)).alloc (.cells #[.int .i64 a] 3)).heap[X]? = some (.cells #[.int .i64 a, .int .i64 0, .int .i64 e] 60 (0, 0)) := by
          have h0 := alloc_at wr (.cells #[.int .i64 a, .int .i64 0, .int .i64 e] 60)
          rw [hX] at h0
          exact ((alloc_below (wr.alloc (.cells #[.int .i64 a, .int .i64 0, .int .i64 e] 60)) (.cells #[.int .i64 a] 3)).block X (by rw [alloc_size]; omega)).trans h0
        have HXX : Hid (((wr.alloc (.cells #[.int .i64 a, .int .i64 0, .int .i64 e] 60)).alloc (.cells #[.int .i64 a] 3)).heap[X]? = some (.cells #[.int .i64 a, .int .i64 0, .int .i64 e] 60 (0, 0))) := hxx
        have HT2 : Hid (TS b w ((wr.alloc (.cells #[.int .i64 a, .int .i64 0, .int .i64 e] 60)).alloc (.cells #[.int .i64 a] 3)) (zs.take i) us un uc rs rn rc gs an ac) := HT.out.below hb2 HZ.out
        have HZ2 : Hid (b ≤ ((wr.alloc (.cells #[.int .i64 a, .int .i64 0, .int .i64 e] 60)).alloc (.cells #[.int .i64 a] 3)).heap.size) := Nat.le_trans HZ.out hb2.size
        clear hb1 hb2 hc hxx
        by_cases he : 0 < e
        · have hA : ∀ (w5 : World) (g5 c5 : Nat), w5.ownsRow b 3 1 (.slice (some ⟨g5, 0, none⟩) (un + 1) c5) (un + 1) (num ((due (zs.take i)).map Prod.fst ++ [a])) → Buts (Value.slice us un uc).ownBlock.toList ((wr.alloc (.cells #[.int .i64 a, .int .i64 0, .int .i64 e] 60)).alloc (.cells #[.int .i64 a] 3)) w5 → w5.heap[X]? = some (.cells #[.int .i64 a, .int .i64 0, .int .i64 e] 60 (0, 0)) →
              OwnA b ((w5.setCell ⟨X, 1, none⟩ (.int .i64 e)).alloc (.cells #[.int .i64 a, .int .i64 e, .int .i64 e] 60)) (.slice gs an ac) (agn (due (zs.take i))) ∧ Arg3 ((w5.setCell ⟨X, 1, none⟩ (.int .i64 e)).alloc (.cells #[.int .i64 a, .int .i64 e, .int .i64 e] 60)) w5.heap.size (a, e, e) ∧ b ≤ ((w5.setCell ⟨X, 1, none⟩ (.int .i64 e)).alloc (.cells #[.int .i64 a, .int .i64 e, .int .i64 e] 60)).heap.size ∧
                ∀ (g6 c6 : Nat) (w6 : World), OwnA b w6 (.slice (some ⟨g6, 0, none⟩) (an + 1) c6) (agn (due (zs.take i)) ++ [(a, e, e)]) → Buts (Value.slice gs an ac).ownBlock.toList ((w5.setCell ⟨X, 1, none⟩ (.int .i64 e)).alloc (.cells #[.int .i64 a, .int .i64 e, .int .i64 e] 60)) w6 → ((Value.slice gs an ac).ownBlock = some g6 ∨ ((w5.setCell ⟨X, 1, none⟩ (.int .i64 e)).alloc (.cells #[.int .i64 a, .int .i64 e, .int .i64 e] 60)).heap.size ≤ g6) → TS b w w6 (zs.take i ++ [(a, 1, e)]) (some ⟨g5, 0, none⟩) (un + 1) c5 rs rn rc (some ⟨g6, 0, none⟩) (an + 1) c6 := fun w5 g5 c5 ho hb hx => by
            have hT5 := HT2.out
            have s1 : OwnA b w5 (.slice rs rn rc) (stay (zs.take i)) := hT5.st.buts hb (fun y hy hm => own_ne hT5.st hy hT5.du (H := y) (by simpa using hm) (by decide) rfl)
            have s2 : OwnA b w5 (.slice gs an ac) (agn (due (zs.take i))) := hT5.ag.buts hb (fun y hy hm => own_ne hT5.ag hy hT5.du (H := y) (by simpa using hm) (by decide) rfl)
            have hbl : Below b w w5 := hT5.bel.trans (hb.below (fun y hy => (hT5.du.lt y (by simpa using hy)).1) HZ2.out)
            have hz5 : b ≤ w5.heap.size := Nat.le_trans HZ2.out hb.size
            have n1 : ∀ g, (Value.slice rs rn rc).ownBlock = some g → g ∉ [X] := fun g hg hm => by
              have := (HT.out.st.lt' hg).2
              have : g = X := by simpa using hm
              omega
            have n2 : ∀ g, (Value.slice gs an ac).ownBlock = some g → g ∉ [X] := fun g hg hm => by
              have := (HT.out.ag.lt' hg).2
              have : g = X := by simpa using hm
              omega
            have hXb : b ≤ X := by have := HZ.out; omega
            have cc := Buts.cell w5 X 1 (.int .i64 e)
            have hal := alloc_below (w5.setCell ⟨X, 1, none⟩ (.int .i64 e)) (.cells #[.int .i64 a, .int .i64 e, .int .i64 e] 60)
            have o1 := (s1.buts cc n1).below hal
            have o2 := (s2.buts cc n2).below hal
            have hsz : (w5.setCell ⟨X, 1, none⟩ (.int .i64 e)).heap.size = w5.heap.size := by simp [World.setCell]
            have hb6 : Below b w ((w5.setCell ⟨X, 1, none⟩ (.int .i64 e)).alloc (.cells #[.int .i64 a, .int .i64 e, .int .i64 e] 60)) := (hbl.trans (cc.below (fun y hy => (by have h7 : y = X := (by simpa using hy); omega)) hz5)).trans (hal.mono (by omega))
            have hz6 : b ≤ ((w5.setCell ⟨X, 1, none⟩ (.int .i64 e)).alloc (.cells #[.int .i64 a, .int .i64 e, .int .i64 e] 60)).heap.size := by rw [alloc_size]; omega
            refine ⟨o2, ⟨_, by have := alloc_at (w5.setCell ⟨X, 1, none⟩ (.int .i64 e)) (.cells #[.int .i64 a, .int .i64 e, .int .i64 e] 60); rw [hsz] at this; exact this⟩, hz6, fun g6 c6 w6 h6 b6 k6 => ?_⟩
            refine TS.again (x := (a, 1, e)) hT5 HZ2.out rfl he ?_ o1 o2 hz6 hb6 h6 b6 k6
            refine owns_below (owns_buts ho cc (fun y hy hm => ?_)) hal
            obtain rfl : y = X := by simpa using hm
            exact block_ne ho hy hx (by decide) rfl
          have HHA : Hid _ := hA
          clear hA
          go_wp2_with (first
            | (at_builtin; refine wpList_napp (B := b) (v := .slice us un uc) rfl (.tmp 35) (.tmp 38) rfl rfl rfl HT2.out.du HLE.out.1 (by have := HLE.out; omega) HCC.out HZ2.out ?_; intro g5 c5 w5 HO5 HB5; have hx5 : w5.heap[X]? = some (.cells #[.int .i64 a, .int .i64 0, .int .i64 e] 60 (0, 0)) := ((HB5.out.block X (at_lt HXX.out) (fun hm => block_ne HT2.out.du (g := X) (by simpa using hm) HXX.out (by decide) rfl)).trans HXX.out); have HX5 : Hid (w5.heap[X]? = some (.cells #[.int .i64 a, .int .i64 0, .int .i64 e] 60 (0, 0))) := hx5; have k0 : w5.cell? ⟨X, 0, none⟩ = some (.int .i64 a) := (by rw [cell_of hx5]; rfl); have k1 : w5.cell? ⟨X, 1, none⟩ = some (.int .i64 0) := (by rw [cell_of hx5]; rfl); have k2 : w5.cell? ⟨X, 2, none⟩ = some (.int .i64 e) := (by rw [cell_of hx5]; rfl); have kf : w5.frozen? ⟨X, 1, none⟩ = false := (by simp [World.frozen?, hx5]); have HW := HHA.out w5 g5 c5 HO5.out HB5.out hx5; have HW2 : Hid (OwnA b ((w5.setCell ⟨X, 1, none⟩ (.int .i64 e)).alloc (.cells #[.int .i64 a, .int .i64 e, .int .i64 e] 60)) (.slice gs an ac) (agn (due (zs.take i))) ∧ Arg3 ((w5.setCell ⟨X, 1, none⟩ (.int .i64 e)).alloc (.cells #[.int .i64 a, .int .i64 e, .int .i64 e] 60)) w5.heap.size (a, e, e) ∧ b ≤ ((w5.setCell ⟨X, 1, none⟩ (.int .i64 e)).alloc (.cells #[.int .i64 a, .int .i64 e, .int .i64 e] 60)).heap.size ∧ ∀ (g6 c6 : Nat) (w6 : World), OwnA b w6 (.slice (some ⟨g6, 0, none⟩) (an + 1) c6) (agn (due (zs.take i)) ++ [(a, e, e)]) → Buts (Value.slice gs an ac).ownBlock.toList ((w5.setCell ⟨X, 1, none⟩ (.int .i64 e)).alloc (.cells #[.int .i64 a, .int .i64 e, .int .i64 e] 60)) w6 → ((Value.slice gs an ac).ownBlock = some g6 ∨ ((w5.setCell ⟨X, 1, none⟩ (.int .i64 e)).alloc (.cells #[.int .i64 a, .int .i64 e, .int .i64 e] 60)).heap.size ≤ g6) → TS b w w6 (zs.take i ++ [(a, 1, e)]) (some ⟨g5, 0, none⟩) (un + 1) c5 rs rn rc (some ⟨g6, 0, none⟩) (an + 1) c6) := HW; clear hx5 HW)
            | (at_builtin; refine wpList_aapp (B := b) (v := .slice gs an ac) rfl (.tmp 46) (.tmp 48) rfl rfl rfl HW2.out.1 HLE.out.2.2.1 (by have := HLE.out; omega) HW2.out.2.1 HW2.out.2.2.1 ?_; intro g6 c6 w6 HO6 HB6 HG6; have HF6 := HW2.out.2.2.2 g6 c6 w6 HO6.out HB6.out HG6.out; have HF7 : Hid (TS b w w6 (zs.take i ++ [(a, 1, e)]) (some ⟨g5, 0, none⟩) (un + 1) c5 rs rn rc (some ⟨g6, 0, none⟩) (an + 1) c6) := HF6; clear HF6))
          go_roundg g'
          case measure => omega
          case rel => exact ⟨i + 1, _, _, _, _, _, _, _, _, _, by omega, rfl, rfl, rfl, by go_num, by show TS _ _ _ _ _ _ _ _ _ _ _ _ _; rw [HTT.out]; exact HF7.out⟩
        · have HE0 : Hid (¬ 0 < e) := he
          go_wp2_with (at_builtin; refine wpList_napp (B := b) (v := .slice us un uc) rfl (.tmp 35) (.tmp 38) rfl rfl rfl HT2.out.du HLE.out.1 (by have := HLE.out; omega) HCC.out HZ2.out ?_; intro g5 c5 w5 HO5 HB5; have hx5 : w5.heap[X]? = some (.cells #[.int .i64 a, .int .i64 0, .int .i64 e] 60 (0, 0)) := ((HB5.out.block X (at_lt HXX.out) (fun hm => block_ne HT2.out.du (g := X) (by simpa using hm) HXX.out (by decide) rfl)).trans HXX.out); have k2 : w5.cell? ⟨X, 2, none⟩ = some (.int .i64 e) := (by rw [cell_of hx5]; rfl); clear hx5)
          go_roundg g'
          case measure => omega
          case rel => exact ⟨i + 1, _, _, _, _, _, _, _, _, _, by omega, rfl, rfl, rfl, by go_num, by show TS _ _ _ _ _ _ _ _ _ _ _ _ _; rw [HTT.out]; exact HT2.out.comes HZ2.out rfl (by have := HE0.out; simpa using this) HO5.out HB5.out⟩
      · have H1 : Hid (¬ t = 1) := h1
        have h1' : 0 < t - 1 := by omega
        have hb1 := alloc_below wr (.cells #[.int .i64 a, .int .i64 (t - 1), .int .i64 e] 60)
        have hb2 := hb1.trans ((alloc_below (wr.alloc (.cells #[.int .i64 a, .int .i64 (t - 1), .int .i64 e] 60)) (.cells #[.int .i64 a, .int .i64 (t - 1), .int .i64 e] 60)).mono hb1.size)
        have hc := alloc_at (wr.alloc (.cells #[.int .i64 a, .int .i64 (t - 1), .int .i64 e] 60)) (.cells #[.int .i64 a, .int .i64 (t - 1), .int .i64 e] 60)
        rw [alloc_size, hX] at hc
        have HCC : Hid (Arg3 ((wr.alloc (.cells #[.int .i64 a, .int .i64 (t - 1), .int .i64 e] 60)).alloc (.cells #[.int .i64 a, .int .i64 (t - 1), .int .i64 e] 60)) (X + 1) (a, t - 1, e)) := ⟨_, hc⟩
        have HT2 : Hid (TS b w ((wr.alloc (.cells #[.int .i64 a, .int .i64 (t - 1), .int .i64 e] 60)).alloc (.cells #[.int .i64 a, .int .i64 (t - 1), .int .i64 e] 60)) (zs.take i) us un uc rs rn rc gs an ac) := HT.out.below hb2 HZ.out
        have HZ2 : Hid (b ≤ ((wr.alloc (.cells #[.int .i64 a, .int .i64 (t - 1), .int .i64 e] 60)).alloc (.cells #[.int .i64 a, .int .i64 (t - 1), .int .i64 e] 60)).heap.size) := Nat.le_trans HZ.out hb2.size
        clear hb1 hb2 hc
        go_wp2_with (at_builtin; refine wpList_aapp (B := b) (v := .slice rs rn rc) rfl (.tmp 31) (.tmp 33) rfl rfl rfl HT2.out.st HLE.out.2.1 (by have := HLE.out; omega) HCC.out HZ2.out ?_; intro g5 c5 w5 HO5 HB5 HG5)
        go_roundg g'
        case measure => omega
        case rel => exact ⟨i + 1, _, _, _, _, _, _, _, _, _, by omega, rfl, rfl, rfl, by go_num, by show TS _ _ _ _ _ _ _ _ _ _ _ _ _; rw [HTT.out]; exact HT2.out.stays (x := (a, t, e)) HZ2.out H1.out HO5.out HB5.out HG5.out⟩
end Go.Proofs.YtciafjmljmeimaaDoor
