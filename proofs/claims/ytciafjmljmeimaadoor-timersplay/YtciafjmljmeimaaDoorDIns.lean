/- slices.Insert at links: one more. -/
import Derived.Test.YtciafjmljmeimaaDoorDSls
import Derived.WalkSpells
import Derived.Lib.AppendZeros
namespace Go.Proofs.YtciafjmljmeimaaDoor
open Go Go.RowKit
set_option maxRecDepth 100000
set_option linter.unusedVariables false
set_option linter.unusedSimpArgs false
/-- one link, in memory of its own -/
def Arg (w : World) (vb : Nat) (x : Int × Int) : Prop := ∃ t, w.heap[vb]? = some (.cells #[.int .i64 x.1, .int .i64 x.2] t (0, 0))
theorem Arg.cells {w : World} {vb : Nat} {x : Int × Int} (h : Arg w vb x) : ∀ j u, (lks [x])[j]? = some u → w.cell? ((⟨vb, 0, none⟩ : Addr).add j) = some u := by
  obtain ⟨t, h⟩ := h
  intro j u hj
  rw [addr_add, Nat.zero_add, cell_of h]
  rcases j with _ | _ | j
  · simpa [lks] using hj
  · simpa [lks] using hj
  · simp [lks] at hj
theorem Arg.keep {w w' : World} {vb : Nat} {x : Int × Int} (h : Arg w vb x) (e : w'.heap[vb]? = w.heap[vb]?) : Arg w' vb x := by
  obtain ⟨t, h⟩ := h
  exact ⟨t, e.trans h⟩
theorem Arg.drew {w : World} {vb : Nat} {x : Int × Int} (h : Arg w vb x) : Arg w.drew vb x := h.keep rfl
theorem Own.drew {B : Nat} {w : World} {v : Value} {ds : List (Int × Int)} (h : Own B w v ds) : Own B w.drew v ds := h
theorem own_to {B : Nat} {w : World} {v : Value} {ds : List (Int × Int)} {n : Nat} {x : Int × Int} (hn : n = ds.length) (h : w.ownsRow B 137 2 v (n + 1) (lks ds ++ lks [x])) : Own B w v (ds ++ [x]) := by
  unfold Own
  rw [List.length_append, lks_app, ← hn]
  exact h
/-- one more behind all: in its place, or in a new row -/
theorem run_app2 {B : Nat} {w : World} {v : Value} {n : Nat} {ds : List (Int × Int)} (ty : TypeId) (h : Own B w v ds) (hn : n = ds.length) (hl : n ≤ 1000) {vb : Nat} {x : Int × Int} (hx : Arg w vb x) (hB : B ≤ w.heap.size) :
    ∃ g cap w', (Builtin.append_ #[66, 66] ty #[v, .slice (some ⟨vb, 0, none⟩) 1 1]).run Tryd.prog w = .ok (.slice (some ⟨g, 0, none⟩) (n + 1) cap) w' ∧ Own B w' (.slice (some ⟨g, 0, none⟩) (n + 1) cap) (ds ++ [x]) ∧ Buts v.ownBlock.toList w w' ∧ (v.ownBlock = some g ∨ w.heap.size ≤ g) := by
  obtain ⟨i, hi, hz, hs, hby⟩ := info_parts' infoK
  rcases h.2 with ⟨rfl, h0⟩ | ⟨g, cap, cur, rfl, hBb, hh, hc, hm, hsz, ht⟩
  · have hn0 : n = 0 := by omega
    subst hn0
    obtain rfl : ds = [] := List.eq_nil_of_length_eq_zero h0
    obtain ⟨v', w', hr, ho, hg, _⟩ := run_append_own (P := Tryd.prog) w w.heap.size 66 ty 137 i _ 2 16 Tryd.underlying66 hi hz hs hby rfl (by decide) (.slice none 0 0) 0 [] (World.ownsRow_nil _ _ _ _) ⟨vb, 0, none⟩ 1 1 (lks [x]) rfl hx.cells (lks_one _) (by decide) (by decide) (Nat.le_refl _)
    obtain ⟨g', c', rfl, _⟩ := owns_spot ho (by decide)
    exact ⟨g', c', w', hr, own_to rfl (owns_base ho hB), by simpa [Value.ownBlock] using Buts.grown hg, Or.inr (ho.lt g' rfl).1⟩
  · by_cases hroom : ds.length + 1 ≤ cap
    · obtain ⟨w', hr, ho', hg⟩ := run_append_fits (P := Tryd.prog) w B 66 ty 137 i 2 Tryd.underlying66 hi hs g ds.length cap (lks ds) h ⟨vb, 0, none⟩ 1 1 (lks [x]) rfl hx.cells (lks_one _) hroom
      subst hn
      exact ⟨g, cap, w', hr, own_to rfl ho', Buts.grown hg, Or.inl rfl⟩
    · obtain ⟨v', w', hr, ho, hg⟩ := run_append_arg_grows (P := Tryd.prog) w 66 ty 137 i _ 2 16 Tryd.underlying66 hi hz hs hby rfl (by decide) ⟨g, 0, none⟩ ds.length cap (lks ds) (lks_len ds) (by have := drop_cells h rfl 0; simpa using this) ⟨vb, 0, none⟩ 1 1 (lks [x]) rfl hx.cells (by omega) (by simp only [maxLen]; omega) (by omega)
      obtain ⟨g', c', rfl, _⟩ := owns_spot ho (by omega)
      subst hn
      exact ⟨g', c', w', hr, own_to rfl (owns_base ho hB), (Buts.grown hg).mono (by simp), Or.inr (ho.lt g' rfl).1⟩
theorem wpList_app2 {w : World} {ops : Array Oper} {rest : List Oper} {o : Oper} {a : Go.Act} {Q : Exit → Go.Act → World → Prop} (hgd : o.guard = none) (s y : Operand)
    (ho : o.op = .call { callee := .builtin .append, args := #[s, y], argTypes := #[66, 66] }) {B : Nat} {v : Value} {n : Nat} {ds : List (Int × Int)} {vb : Nat} {x : Int × Int} (hse : a.eval s = v) (hy : a.eval y = .slice (some ⟨vb, 0, none⟩) 1 1)
    (h : Own B w v ds) (hn : n = ds.length) (hl : n ≤ 1000) (hx : Arg w vb x) (hB : B ≤ w.heap.size)
    (hK : ∀ g cap w', Hid (Own B w' (.slice (some ⟨g, 0, none⟩) (n + 1) cap) (ds ++ [x])) → Hid (Buts v.ownBlock.toList w w') → Hid (v.ownBlock = some g ∨ w.heap.size ≤ g) → wpList Tryd.prog ops Q rest (a.put o.dst (.slice (some ⟨g, 0, none⟩) (n + 1) cap)) w') : wpList Tryd.prog ops Q (o :: rest) a w := by
  refine wpList_plain hgd fun K hK' => ?_
  obtain ⟨g, cap, w', hr, h2, h3, h4⟩ := run_app2 o.type h hn hl hx hB
  unfold Oper.wp execOp
  simp only [ho, resolve, invoke, builtin, Sem.run_bind, Sem.run_pure, Result.andThen_ok, List.map_toArray, List.map_cons, List.map_nil, hse, hy, hr]
  exact hK' _ _ (hK g cap w' h2 h3 h4)
set_option maxHeartbeats 1000000 in
theorem insert_end {B : Nat} {w : World} {v : Value} {n : Nat} {ds : List (Int × Int)} (h : Own B w v ds) (hn : n = ds.length) (hl : n ≤ 1000) {vb : Nat} {x : Int × Int} (hx : Arg w vb x) (hB : B ≤ w.heap.size) :
    Calls Tryd.prog 76 #[v, .int .i64 n, .slice (some ⟨vb, 0, none⟩) 1 1] w fun e w' => ∃ g cap, e = .returned (.slice (some ⟨g, 0, none⟩) (n + 1) cap) ∧ Own B w' (.slice (some ⟨g, 0, none⟩) (n + 1) cap) (ds ++ [x]) ∧ Buts v.ownBlock.toList w w' ∧ (v.ownBlock = some g ∨ w.heap.size ≤ g) := by
  obtain ⟨sp, cap, rfl, hc1, hc2, h0⟩ := h.form
  have hp : ∀ a, sp = some a → ∃ g, a = ⟨g, 0, none⟩ := by
    intro a ha
    rcases h.2 with ⟨h1, _⟩ | ⟨g, cap', cur, h1, _⟩
    · simp only [Value.slice.injEq] at h1
      rw [h1.1] at ha; cases ha
    · simp only [Value.slice.injEq] at h1
      rw [h1.1] at ha
      exact ⟨g, by simpa using ha.symm⟩
  rw [← hn] at hc1 h0 h ⊢
  have HO : Hid (Own B w (.slice sp n cap) ds) := h
  have HX : Hid (Arg w vb x) := hx
  have HN : Hid (n = ds.length) := hn
  simp only [maxLen] at hc2
  clear h hx hn
  cases sp with
  | none =>
    obtain ⟨h00, rfl⟩ := h0 rfl
    clear hp h0
    subst h00
    go_enter Tryd.func76, Tryd.ntmps76
    go_wp2_with (at_builtin; refine wpList_app2 rfl _ _ rfl rfl rfl HO.out HN.out hl HX.out hB ?_; intro g c' w1 HO1 HB1 HG1)
    go_ret
    exact ⟨g, c', rfl, HO1.out, HB1.out, HG1.out⟩
  | some a =>
    obtain ⟨g0, rfl⟩ := hp a rfl
    clear hp h0
    have a1 : (n : Int) ≤ cap := by omega
    go_enter Tryd.func76, Tryd.ntmps76
    go_wp2_with (at_builtin; refine wpList_app2 rfl _ _ rfl rfl rfl HO.out HN.out hl HX.out hB ?_; intro g c' w1 HO1 HB1 HG1)
    all_goals (go_ret; exact ⟨g, c', rfl, HO1.out, HB1.out, HG1.out⟩)
theorem splice_ins {α : Type} (L1 L2 T ab : List α) (hab : ab.length = 2) (hT : 2 ≤ T.length) :
    splice (splice (L1 ++ L2 ++ T) (L1.length + 2) L2) L1.length ab = L1 ++ ab ++ L2 ++ (L1 ++ L2 ++ T).drop (L1.length + 2 + L2.length) := by
  have hl : (List.take (L1.length + 2) (L1 ++ L2 ++ T)).length = L1.length + 2 := by simp; omega
  unfold splice
  have e1 : List.take L1.length (List.take (L1.length + 2) (L1 ++ L2 ++ T) ++ (L2 ++ List.drop (L1.length + 2 + L2.length) (L1 ++ L2 ++ T))) = L1 := by
    rw [List.take_append_of_le_length (by rw [hl]; omega), List.take_take, Nat.min_eq_left (by omega), List.append_assoc, List.take_left]
  have e2 : List.drop (L1.length + ab.length) (List.take (L1.length + 2) (L1 ++ L2 ++ T) ++ (L2 ++ List.drop (L1.length + 2 + L2.length) (L1 ++ L2 ++ T))) = L2 ++ List.drop (L1.length + 2 + L2.length) (L1 ++ L2 ++ T) := by
    rw [hab]
    exact List.drop_left' hl
  rw [e1, e2]
  simp
theorem overlaps_no (w : World) (vb m vc g off lb cb : Nat) (hne : vb ≠ g) {c1 c2 : Array Value} {t1 t2 : TypeId} (h1 : w.heap[vb]? = some (.cells c1 t1 (0, 0))) (h2 : w.heap[g]? = some (.cells c2 t2 (0, 0))) (hc : c2.size ≠ 0) :
    (callFunc 81 #[.slice (some ⟨vb, 0, none⟩) m vc, .slice (some ⟨g, off, none⟩) lb cb]).run Tryd.prog w = .ok (.value (.bool false)) w := by
  rw [run_callFunc_extern Tryd.func81 (by kernel_rfl) (by kernel_rfl) (by kernel_rfl) (e := Extern.SlicesOverlaps.overlaps #[66, 66] #[4]) (by kernel_rfl),
    Lib.run_overlaps_apart w 66 4 137 Tryd.underlying66 2 Tryd.sizeOf137 ⟨vb, 0, none⟩ ⟨g, off, none⟩ m vc lb cb hne t1 t2 c1.size c2.size (by simp [World.shape?, h1]) (by simp [World.shape?, h2]) hc (by simp [World.frozen?, h1]) (by simp [World.frozen?, h1])]
  rfl
set_option maxHeartbeats 2000000 in
theorem insert_shift {B : Nat} {w : World} {g n cap i : Nat} {ds : List (Int × Int)} (h : Own B w (.slice (some ⟨g, 0, none⟩) n cap) ds) (hn : n = ds.length) (hi : i < n) (hroom : n + 1 ≤ cap) (hc : cap ≤ maxLen) {vb : Nat} {x : Int × Int} (hx : Arg w vb x) (hne : vb ≠ g) :
    Calls Tryd.prog 76 #[.slice (some ⟨g, 0, none⟩) n cap, .int .i64 i, .slice (some ⟨vb, 0, none⟩) 1 1] w fun e w' => e = .returned (.slice (some ⟨g, 0, none⟩) (n + 1) cap) ∧ Own B w' (.slice (some ⟨g, 0, none⟩) (n + 1) cap) (ds.take i ++ x :: ds.drop i) ∧ Buts [g] w w' := by
  simp only [maxLen] at hc
  have h' := h
  rw [hn] at h'
  rcases h'.2 with ⟨e0, _⟩ | ⟨g', cap', cur, e0, hBg, hg, hnc, hcm, hcs, htake⟩
  · cases e0
  simp only [Value.slice.injEq, Option.some.injEq, Addr.mk.injEq, and_true, true_and] at e0
  obtain ⟨rfl, rfl⟩ := e0
  obtain ⟨t, hxa⟩ := hx
  have hov : ∀ off lb cb, (callFunc 81 #[.slice (some ⟨vb, 0, none⟩) 1 1, .slice (some ⟨g, off, none⟩) lb cb]).run Tryd.prog w = .ok (.value (.bool false)) w := fun off lb cb => overlaps_no w vb 1 1 g off lb cb hne hxa hg (by rw [hcs]; omega)
  have HCU : Hid (cur.toList = lks (ds.take i) ++ lks (ds.drop i) ++ cur.toList.drop (n * 2)) := by
    show _ = _
    rw [← lks_app, List.take_append_drop, ← htake, hn, List.take_append_drop]
  have HTL : Hid (2 ≤ (cur.toList.drop (n * 2)).length) := by show _ ≤ _; simp [hcs]; omega
  have HL1 : Hid ((lks (ds.take i)).length = i * 2) := by show _ = _; rw [lks_len, List.length_take]; omega
  have HL2 : Hid ((lks (ds.drop i)).length = (n - i) * 2) := by show _ = _; rw [lks_len, List.length_drop]; omega
  have HG : Hid (w.drew.heap[g]? = some (.cells (cur.toList).toArray 137 (0, 0))) := by show _ = _; simp; exact hg
  have HCL : Hid (cur.toList.length = cap * 2) := by show _ = _; simp [hcs]
  have HS : Hid (∀ j u, (lks (ds.drop i))[j]? = some u → w.drew.cell? ((⟨g, i * 2, none⟩ : Addr).add j) = some u) := drop_cells h hn i
  have HX : Hid (Arg w vb x) := ⟨t, hxa⟩
  have HN : Hid (n = ds.length) := hn
  have HBG : Hid (B ≤ g) := hBg
  generalize cur.toList = C at HCU HTL HG HCL
  clear h h' hg hnc hcm hcs htake hxa hn hBg
  have a1 : (i : Int) ≤ n := by omega
  have a2 : ¬ ((i : Int) = n) := by omega
  have a3 : ¬ ((cap : Int) < (n : Int) + 1) := by omega
  have a4 : ¬ (cap = i + 1) := by omega
  have a5 : ¬ (cap = i) := by omega
  have a6 : (n : Int) + 1 ≤ cap := by omega
  have a7 : (i : Int) + 1 ≤ (n : Int) + 1 := by omega
  have a8 : (i : Int) ≤ (n : Int) + 1 := by omega
  have w1 : IntKind.i64.wrap ((i : Int) + 1) = (i : Int) + 1 := by rw [IntKind.wrap_i64]; omega
  have w2 : IntKind.i64.wrap ((n : Int) + 1) = (n : Int) + 1 := by rw [IntKind.wrap_i64]; omega
  have t1 : ((i : Int) + 1).toNat = i + 1 := by omega
  have t2 : ((n : Int) + 1).toNat = n + 1 := by omega
  have a9 : i ≤ n := by omega
  have c0 : (0 : Int) ≤ (i : Int) + 1 := by omega
  have a10 : n + 1 ≤ cap := by omega
  go_enter Tryd.func76, Tryd.ntmps76
  go_wp2_with (simp only [hov])
  go_region_law (refine step_copy2 rfl _ _ rfl g ((i + 1) * 2) (n - i) (cap - (i + 1)) ⟨g, i * 2, none⟩ (n + 1 - i) (cap - i) C (lks (ds.drop i)) (by simp [Act.eval, Act.put]) (by simp [Act.eval, Act.put]) HG.out (by rw [HL2.out, show Nat.min (n + 1 - i) (n - i) = n - i from Nat.min_eq_right (by omega)]) HS.out (by have := HCL.out; have := HL2.out; omega) (lks_one _) ?_; intro w3 HG3 HB3)
  have HX3 : Hid (Arg w3 vb x) := HX.out.keep (HB3.out.block vb (by obtain ⟨t, ht⟩ := HX.out; exact at_lt ht) (by simpa using hne))
  have HC3 : Hid (∀ j u, (lks [x])[j]? = some u → w3.cell? ((⟨vb, 0, none⟩ : Addr).add j) = some u) := HX3.out.cells
  have HF3 : Hid (i * 2 + 2 ≤ (splice C ((i + 1) * 2) (lks (ds.drop i))).length) := by
    show _ ≤ _
    have h1 := HCL.out
    have h2 := HL2.out
    rw [length_splice _ _ _ (by omega), h1]
    omega
  obtain ⟨w4, hr4, HG4, HB4⟩ := copy2 w3 3 g (i * 2) (n + 1 - i) (cap - i) ⟨vb, 0, none⟩ 1 1 (splice C ((i + 1) * 2) (lks (ds.drop i))) (lks [x]) HG3.out (by rw [show Nat.min 1 (n + 1 - i) = 1 from Nat.min_eq_left (by omega)]; rfl) HC3.out HF3.out (lks_one _)
  go_wp2
  go_ret
  refine ⟨rfl, ?_, (Buts.refl [g] w).drew.trans (HB3.out.trans HB4.out)⟩
  have hg4 := HG4.out
  have e1 := HL1.out
  have e2 := HL2.out
  have e3 := HCU.out
  have e4 := HCL.out
  generalize List.drop (n * 2) C = T at e3 HTL
  have e5 := splice_ins (lks (ds.take i)) (lks (ds.drop i)) T (lks [x]) rfl HTL.out
  rw [← e3, e1, show i * 2 + 2 = (i + 1) * 2 by omega] at e5
  rw [e5] at hg4
  have hlen : (ds.take i ++ x :: ds.drop i).length = n + 1 := by have := HN.out; simp; omega
  unfold Own
  rw [hlen]
  refine ⟨by rw [lks_len, hlen], .inr ⟨g, cap, _, rfl, HBG.out, hg4, hroom, by simp only [maxLen]; omega, ?_, ?_⟩⟩
  · simp only [List.size_toArray, List.length_append, List.length_drop, e1, e2, lks_len [x], List.length_singleton, e4]
    omega
  · simp only [List.append_assoc]
    rw [← List.append_assoc, ← List.append_assoc, List.take_left' (by simp only [List.length_append, e1, e2, lks_len [x], List.length_singleton]; omega)]
    rw [lks_app]
    simp [lks]
/-- a new row: what stood ahead, and room for the rest -/
theorem run_room {B : Nat} {w : World} {g n cap i : Nat} {ds : List (Int × Int)} (ty : TypeId) (h : Own B w (.slice (some ⟨g, 0, none⟩) n cap) ds) (hn : n = ds.length) (hl : n ≤ 1000) (hi : i < n) (hnc : n ≤ cap) (hfull : ¬ n + 1 ≤ cap) :
    ∃ G Z w', (Builtin.append_ #[66, 3] ty #[.slice (some ⟨g, 0, none⟩) i cap, .int .i64 ((n : Int) + 1 - (i : Int))]).run Tryd.prog w = .ok (.slice (some ⟨w.heap.size, 0, none⟩) (n + 1) G) w' ∧ n + 1 ≤ G ∧ G ≤ maxLen ∧ Hid (w'.heap[w.heap.size]? = some (.cells (lks (ds.take i) ++ Z).toArray 137 (0, 0))) ∧ Hid (Z.length = (G - i) * 2) ∧ Hid (Below w.heap.size w w') := by
  obtain ⟨i0, hi0, hz, hs, hby⟩ := info_parts' infoK
  have hlt : (lks (ds.take i)).length = i * 2 := by rw [lks_len, List.length_take]; omega
  have hold : (Builtin.firstCells i0.size i (.slice (some ⟨g, 0, none⟩) i cap)).run Tryd.prog w.drew = .ok (lks (ds.take i)).toArray w.drew := by
    rw [hs]
    refine run_firstCells_some w.drew 2 i ⟨g, 0, none⟩ i cap (lks (ds.take i)) hlt (fun j v hj => ?_)
    have hj' : j < i * 2 := by
      rcases Nat.lt_or_ge j (i * 2) with c | c
      · exact c
      · rw [List.getElem?_eq_none (by omega)] at hj; cases hj
    rw [lks_take, List.getElem?_take, if_pos hj'] at hj
    have h' : w.ownsRow B 137 2 (.slice (some ⟨g, 0, none⟩) ds.length cap) ds.length (lks ds) := by rw [← hn]; rw [hn] at h ⊢; exact h
    rw [addr_add, Nat.zero_add]
    exact (h'.cellAt j (by omega)).trans hj
  have e1 : (n : Int) + 1 - (i : Int) = ((n + 1 - i : Nat) : Int) := by omega
  have e2 : i + (n + 1 - i) = n + 1 := by omega
  have hr := Lib.run_append_grow_zeros (P := Tryd.prog) w 66 3 ty 137 i0 _ .i64 .i64 Tryd.underlying66 Tryd.underlying3 hi0 hz (some ⟨g, 0, none⟩) i cap (lks (ds.take i)) hold (n + 1 - i) (by omega) (by omega) (by omega) (by omega) (by rw [hby]; omega) (by rw [hby, e2]; exact growslice_fits (by omega) (by omega))
  rw [e2] at hr
  have hge := grownCap_ge w (n + 1) cap 137
  have hcm : grownCap w (n + 1) cap 137 ≤ maxLen := grownCap_le_maxLen w (n + 1) cap 137 (by simp only [maxLen]; omega)
  rw [e1]
  generalize grownCap w (n + 1) cap 137 = G at hr hge hcm
  refine ⟨G, (Builtin.zeroCells (Value.agg #[.int .i64 0, .int .i64 0]).cells (n + 1 - i)).toList ++ (Builtin.zeroCells (Value.agg #[.int .i64 0, .int .i64 0]).cells (G - (n + 1))).toList, _, hr, hge, hcm, ?_, ?_, ?_⟩
  · show _ = _
    have := heap_alloc_new w.drew (.cells ((lks (ds.take i)).toArray ++ Builtin.zeroCells (Value.agg #[.int .i64 0, .int .i64 0]).cells (n + 1 - i) ++ Builtin.zeroCells (Value.agg #[.int .i64 0, .int .i64 0]).cells (G - (n + 1))) 137)
    refine Eq.trans this ?_
    congr 2
    apply Array.ext'
    simp
  · show _ = _
    rw [List.length_append, (zero_cells _).1, (zero_cells _).1]
    omega
  · exact (below_drewN w 1).trans (alloc_below w.drew _)
theorem splice_new {α : Type} (L1 L2 Z ab : List α) (hab : ab.length = 2) (hZ : 2 + L2.length ≤ Z.length) :
    splice (splice (L1 ++ Z) L1.length ab) (L1.length + 2) L2 = L1 ++ ab ++ L2 ++ Z.drop (2 + L2.length) := by
  have e0 : splice (L1 ++ Z) L1.length ab = L1 ++ ab ++ Z.drop 2 := by
    unfold splice
    rw [List.take_left, hab, List.drop_append, List.drop_eq_nil_of_le (by omega)]
    simp
  rw [e0]
  unfold splice
  have hl : (L1 ++ ab).length = L1.length + 2 := by simp [hab]
  rw [List.take_left' hl, List.drop_append, List.drop_eq_nil_of_le (by omega), List.nil_append, List.drop_drop, hl, show 2 + (L1.length + 2 + L2.length - (L1.length + 2)) = 2 + L2.length by omega]
  simp
set_option maxHeartbeats 2000000 in
theorem insert_grow {B : Nat} {w : World} {g n cap i : Nat} {ds : List (Int × Int)} (h : Own B w (.slice (some ⟨g, 0, none⟩) n cap) ds) (hn : n = ds.length) (hl : n ≤ 1000) (hi : i < n) (hnc : n ≤ cap) (hfull : ¬ n + 1 ≤ cap) {vb : Nat} {x : Int × Int} (hx : Arg w vb x) (hB : B ≤ w.heap.size) :
    Calls Tryd.prog 76 #[.slice (some ⟨g, 0, none⟩) n cap, .int .i64 i, .slice (some ⟨vb, 0, none⟩) 1 1] w fun e w' => ∃ G, e = .returned (.slice (some ⟨w.heap.size, 0, none⟩) (n + 1) G) ∧ Own B w' (.slice (some ⟨w.heap.size, 0, none⟩) (n + 1) G) (ds.take i ++ x :: ds.drop i) ∧ Below w.heap.size w w' := by
  obtain ⟨G, Z, w1, hr1, hG, hGm, HG1, HZ, HB1⟩ := run_room 66 h hn hl hi hnc hfull
  have hgl : g < w.heap.size := (h.lt' (g := g) rfl).2
  have hvl : vb < w.heap.size := by obtain ⟨t, ht⟩ := hx; exact at_lt ht
  have HL1 : Hid ((lks (ds.take i)).length = i * 2) := by show _ = _; rw [lks_len, List.length_take]; omega
  have HL2 : Hid ((lks (ds.drop i)).length = (n - i) * 2) := by show _ = _; rw [lks_len, List.length_drop]; omega
  have HX1 : Hid (Arg w1 vb x) := hx.keep (HB1.out.block vb hvl)
  have HO1 : Hid (Own B w1 (.slice (some ⟨g, 0, none⟩) n cap) ds) := h.below HB1.out
  have HN : Hid (n = ds.length) := hn
  obtain ⟨t, ht⟩ : ∃ t, w.heap.size = t := ⟨_, rfl⟩
  have HT : Hid (w.heap.size = t) := ht
  rw [ht] at hr1 HG1 HB1 hgl hvl hB ⊢
  clear ht
  obtain ⟨w2, hr2, HG2, HB2⟩ := copy2 w1 3 t (i * 2) (n + 1 - i) (G - i) ⟨vb, 0, none⟩ 1 1 _ (lks [x]) HG1.out (by rw [show Nat.min 1 (n + 1 - i) = 1 from Nat.min_eq_left (by omega)]; rfl) HX1.out.cells (by have := HL1.out; have := HZ.out; rw [List.length_append, lks_len [x], List.length_singleton]; omega) (lks_one _)
  have HO2 : Hid (Own B w2.drew (.slice (some ⟨g, 0, none⟩) n cap) ds) := HO1.out.buts (l := [t]) HB2.out.drew (fun b hb => by
    have : g = b := by simpa [Value.ownBlock] using hb
    subst this
    simp only [List.mem_singleton]
    omega)
  have HS2 : Hid (∀ j u, (lks (ds.drop i))[j]? = some u → w2.drew.cell? ((⟨g, i * 2, none⟩ : Addr).add j) = some u) := drop_cells HO2.out hn i
  have HG2' : Hid (w2.drew.heap[t]? = some (.cells (splice (lks (ds.take i) ++ Z) (i * 2) (lks [x])).toArray 137 (0, 0))) := HG2.out
  have HLS : Hid ((splice (lks (ds.take i) ++ Z) (i * 2) (lks [x])).length = G * 2) := by
    show _ = _
    have h1 := HL1.out
    have h2 := HZ.out
    rw [length_splice _ _ _ (by rw [List.length_append, lks_len [x], List.length_singleton]; omega), List.length_append]
    omega
  simp only [maxLen] at hGm
  clear h hx hn
  have a1 : (i : Int) ≤ n := by omega
  have a2 : ¬ ((i : Int) = n) := by omega
  have a3 : (cap : Int) < (n : Int) + 1 := by omega
  have a4 : ¬ (G = i + 1) := by omega
  have a5 : ¬ (G = i) := by omega
  have a6 : ¬ (cap = i) := by omega
  have a7 : (i : Int) ≤ cap := by omega
  have a8 : (i : Int) ≤ (n : Int) + 1 := by omega
  have a9 : (i : Int) + 1 ≤ (n : Int) + 1 := by omega
  have w1' : IntKind.i64.wrap ((i : Int) + 1) = (i : Int) + 1 := by rw [IntKind.wrap_i64]; omega
  have w2' : IntKind.i64.wrap ((n : Int) + 1) = (n : Int) + 1 := by rw [IntKind.wrap_i64]; omega
  have w3' : IntKind.i64.wrap ((n : Int) + 1 - (i : Int)) = (n : Int) + 1 - (i : Int) := by rw [IntKind.wrap_i64]; omega
  have t1 : ((i : Int) + 1).toNat = i + 1 := by omega
  have c0 : (0 : Int) ≤ (i : Int) + 1 := by omega
  have b1 : i ≤ n := by omega
  have b2 : i ≤ cap := by omega
  go_enter Tryd.func76, Tryd.ntmps76
  go_wp2_with (at_builtin; refine Lib.wpList_append_run _ rfl _ _ _ _ rfl _ _ rfl rfl _ _ hr1 ?_)
  go_region_law (refine step_copy2 rfl _ _ rfl t ((i + 1) * 2) (n - i) (G - (i + 1)) ⟨g, i * 2, none⟩ (n - i) (cap - i) (splice (lks (ds.take i) ++ Z) (i * 2) (lks [x])) (lks (ds.drop i)) (by simp [Act.eval, Act.put]) (by simp [Act.eval, Act.put]) HG2'.out (by rw [HL2.out, show Nat.min (n - i) (n - i) = n - i from Nat.min_eq_left (Nat.le_refl _)]) HS2.out (by have := HLS.out; have := HL2.out; omega) (lks_one _) ?_; intro w3 HG3 HB3)
  go_wp2
  go_ret
  refine ⟨G, rfl, ?_, HB1.out.trans (((HB2.out.trans ((Buts.refl [t] w2).drew.trans HB3.out))).below (by simp) (by have := HB1.out.size; have := HT.out; omega))⟩
  have hg4 := HG3.out
  have e1 := HL1.out
  have e2 := HL2.out
  have e3 := HZ.out
  have e5 := splice_new (lks (ds.take i)) (lks (ds.drop i)) Z (lks [x]) rfl (by omega)
  rw [e1, show i * 2 + 2 = (i + 1) * 2 by omega] at e5
  rw [e5] at hg4
  have hlen : (ds.take i ++ x :: ds.drop i).length = n + 1 := by have := HN.out; simp; omega
  unfold Own
  rw [hlen]
  refine ⟨by rw [lks_len, hlen], .inr ⟨t, G, _, rfl, hB, hg4, hG, by simp only [maxLen]; omega, ?_, ?_⟩⟩
  · simp only [List.size_toArray, List.length_append, List.length_drop, e1, e2, e3, lks_len [x], List.length_singleton]
    omega
  · simp only [List.append_assoc]
    rw [← List.append_assoc, ← List.append_assoc, List.take_left' (by simp only [List.length_append, e1, e2, lks_len [x], List.length_singleton]; omega)]
    rw [lks_app]
    simp [lks]
/-- one more at a place -/
theorem insert_any {B : Nat} {w : World} {v : Value} {i : Nat} {ds : List (Int × Int)} (h : Own B w v ds) (hl : ds.length ≤ 1000) (hi : i ≤ ds.length) {vb : Nat} {x : Int × Int} (hx : Arg w vb x) (hne : ∀ g, v.ownBlock = some g → vb ≠ g) (hB : B ≤ w.heap.size) :
    Calls Tryd.prog 76 #[v, .int .i64 i, .slice (some ⟨vb, 0, none⟩) 1 1] w fun e w' => ∃ g cap, e = .returned (.slice (some ⟨g, 0, none⟩) (ds.length + 1) cap) ∧ Own B w' (.slice (some ⟨g, 0, none⟩) (ds.length + 1) cap) (ds.take i ++ x :: ds.drop i) ∧ Buts v.ownBlock.toList w w' ∧ (v.ownBlock = some g ∨ w.heap.size ≤ g) := by
  by_cases he : i = ds.length
  · subst he
    refine (insert_end h rfl hl hx hB).mono ?_
    rintro e w' ⟨g, cap, h1, h2, h3, h4⟩
    exact ⟨g, cap, h1, by simpa using h2, h3, h4⟩
  · obtain ⟨g, cap, rfl, hc1, hc2⟩ := h.spot (by omega)
    by_cases hroom : ds.length + 1 ≤ cap
    · refine (insert_shift h rfl (by omega) hroom hc2 hx (hne g rfl)).mono ?_
      rintro e w' ⟨h1, h2, h3⟩
      exact ⟨g, cap, h1, h2, by simpa [Value.ownBlock] using h3, Or.inl rfl⟩
    · refine (insert_grow h rfl hl (by omega) hc1 hroom hx hB).mono ?_
      rintro e w' ⟨G, h1, h2, h3⟩
      exact ⟨_, G, h1, h2, Buts.of h3, Or.inr (Nat.le_refl _)⟩
/-- some are struck out -/
theorem delete_any {B : Nat} {w : World} {v : Value} {i j : Nat} {ds : List (Int × Int)} (h : Own B w v ds) (hij : i ≤ j) (hj : j ≤ ds.length) :
    Calls Tryd.prog 78 #[v, .int .i64 i, .int .i64 j] w fun e w' => ∃ sp cap, e = .returned (.slice sp (ds.length - (j - i)) cap) ∧ Own B w' (.slice sp (ds.length - (j - i)) cap) (ds.take i ++ ds.drop j) ∧ Buts v.ownBlock.toList w w' ∧ (Value.slice sp (ds.length - (j - i)) cap).ownBlock = v.ownBlock := by
  by_cases he : i = j
  · subst he
    obtain ⟨sp, cap, rfl, hc1, hc2, h0⟩ := h.form
    have hp : ∀ a, sp = some a → ∃ g, a = ⟨g, 0, none⟩ := by
      intro a ha
      rcases h.2 with ⟨h1, _⟩ | ⟨g, cap', cur, h1, _⟩
      · simp only [Value.slice.injEq] at h1
        rw [h1.1] at ha; cases ha
      · simp only [Value.slice.injEq] at h1
        rw [h1.1] at ha
        exact ⟨g, by simpa using ha.symm⟩
    refine (delete_same w sp ds.length cap i hj hc1 hc2 h0 hp).mono ?_
    rintro e w' ⟨rfl, rfl⟩
    refine ⟨sp, cap, by simp, ?_, Buts.refl _ _, by rw [Nat.sub_self, Nat.sub_zero]⟩
    rw [List.take_append_drop, Nat.sub_self, Nat.sub_zero]
    exact h
  · obtain ⟨g, cap, rfl, hc1, hc2⟩ := h.spot (by omega)
    refine (delete_some h rfl (by omega) hj hc1 hc2).mono ?_
    rintro e w' ⟨h1, h2, h3⟩
    have e1 : i + (ds.length - j) = ds.length - (j - i) := by omega
    rw [e1] at h1 h2
    exact ⟨some ⟨g, 0, none⟩, cap, h1, h2, by simpa [Value.ownBlock] using h3, rfl⟩
end Go.Proofs.YtciafjmljmeimaaDoor
