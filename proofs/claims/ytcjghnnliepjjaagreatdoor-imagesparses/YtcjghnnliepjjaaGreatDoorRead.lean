/- An instruction, out of its parts. -/
import Derived.Test.YtcjghnnliepjjaaGreatDoorOp
import Derived.Test.YtcjghnnliepjjaaGreatDoorField
namespace Go.Proofs.YtcjghnnliepjjaaGreatDoor
open Go Go.RowKit
set_option maxRecDepth 100000
theorem fit_len : ∀ {ks : List Nat} {m : Nat}, fit ks m → ks.length ≤ m
  | [], _, _ => Nat.zero_le _
  | k :: ks, m, h => by
    have h1 := kSz_bd k
    have h2 := fit_len h.2.2.2
    have h3 := h.2.2.1
    simp only [List.length_cons]
    omega
/-- the bytes of fields, one after the other -/
def rdAll : List Nat → List ByteArray → List Int → Option (List Int)
  | k :: ks, t :: ts, acc => match rd k t.data.toList with
    | some n => rdAll ks ts (acc ++ kBytes k n)
    | none => none
  | [], [], acc => some acc
  | _, _, _ => none
/-- what all calls of package instrs find in memory -/
structure Env2 (w : World) : Prop where
  env : Env w
  row : Row w
  errs : Errs w
theorem Env2.on {w w' : World} (h : Env2 w) (hb : Below w.heap.size w w') : Env2 w' := ⟨h.env.on hb, h.row.on hb h.env.lt, h.errs.on hb⟩
def pad (l : List Int) : List Int := l ++ List.replicate (3 - l.length) 0
/-- the instruction of a word and its fields -/
def prs : List ByteArray → Option (Nat × List Int)
  | [] => none
  | w :: ts => match opOf w.data.toList with
    | none => none
    | some o => if (ksOf o).length = ts.length then (rdAll (ksOf o) ts []).map fun l => (o, pad l) else none
theorem Hmap.looks {w : World} {b : Nat} (h : Hmap w b) (k : Nat) (h1 : 1 ≤ k) (h5 : k ≤ 5) :
    ∃ n, (∀ W : World, W.heap[b]? = w.heap[b]? → (Instr.lookup 153 (.map (some b)) (.int .u8 k) false).run Tryz.prog W = .ok (hv n (kSize k)) W) ∧ Hcells w n (kMark k) (kSize k) (kLeast k) (kMost k) := by
  obtain ⟨n1, n2, n3, n4, n5, c, e, _, a1, a2, a3, a4, a5⟩ := h.is
  obtain rfl | rfl | rfl | rfl | rfl : k = 1 ∨ k = 2 ∨ k = 3 ∨ k = 4 ∨ k = 5 := by omega
  · exact ⟨n1, fun W hW => look_law (hW.trans e) 1 0 _ rfl, a1⟩
  · exact ⟨n2, fun W hW => look_law (hW.trans e) 2 1 _ rfl, a2⟩
  · exact ⟨n3, fun W hW => look_law (hW.trans e) 3 2 _ rfl, a3⟩
  · exact ⟨n4, fun W hW => look_law (hW.trans e) 4 3 _ rfl, a4⟩
  · exact ⟨n5, fun W hW => look_law (hW.trans e) 5 4 _ rfl, a5⟩
theorem fld2 (a b c : Value) (W : World) : (Instr.field 160 (.agg #[a, b, c]) 2).run Tryz.prog W = .ok c W := by kernel_rfl
theorem run_append0 {w : World} {base g n : Nat} {xs : List Int} (hx : xs.length = n) (hn : n ≤ 3) (hown : w.ownsRow base 5 1 (.slice (some ⟨g, 0, none⟩) n 3) n (ints xs)) :
    ∃ w', (∀ ty, (Builtin.append_ #[22, 3] ty #[.slice (some ⟨g, 0, none⟩) n 3, .int .i64 (3 - n)]).run Tryz.prog w = .ok (.slice (some ⟨g, 0, none⟩) 3 3) w') ∧ w'.ownsRow base 5 1 (.slice (some ⟨g, 0, none⟩) 3 3) 3 (ints (pad xs)) ∧ w.grownBy w' (some g) := by
  obtain ⟨i0, hi, hz0, hz1, hz2⟩ := info_parts info5
  rcases hown.2 with ⟨h, _⟩ | ⟨g', cap', cur, h, hbg, hg, hnc, hcm, hcs, htake⟩
  · simp at h
  · simp only [Value.slice.injEq, Option.some.injEq, Addr.mk.injEq, and_true, true_and] at h
    obtain ⟨rfl, rfl⟩ := h
    simp only [Nat.mul_one] at hcs htake
    have hst := run_storeCells_at Tryz.prog g n 5 (List.replicate (3 - n) (Value.int .u8 0)) 0 cur w hg (by simp; omega) (fun v hv => by rw [List.eq_of_mem_replicate hv]; rfl)
    simp only [Nat.add_zero, List.length_replicate] at hst
    refine ⟨w.setRow g (cur.toList.take n ++ List.replicate (3 - n) (Value.int .u8 0) ++ cur.toList.drop (n + (3 - n))).toArray, fun ty => ?_, ?_, ⟨rfl, rfl, rfl, by simp, fun k _ hk => setRow_other w g k _ (fun e => hk (by simp [e]))⟩⟩
    · have hz : (Builtin.zeroCells #[Value.int .u8 0] (3 - n)).toList = List.replicate (3 - n) (Value.int .u8 0) := by
        clear hst
        obtain rfl | rfl | rfl | rfl : n = 0 ∨ n = 1 ∨ n = 2 ∨ n = 3 := by omega
        all_goals kernel_rfl
      have hzv : (zeroValue 5).run Tryz.prog w = .ok (.int .u8 0) w := by kernel_rfl
      have h3n : (3 : Int) - (n : Int) = ((3 - n : Nat) : Int) := by omega
      have hwr : IntKind.i64.wrap (((3 - n : Nat) : Int)) = ((3 - n : Nat) : Int) := by rw [IntKind.wrap_i64]; omega
      have hnn : ¬ (((3 - n : Nat) : Int) < 0) := by omega
      have h48 : ¬ (((3 - n : Nat) : Int) > 281474976710656) := by omega
      have hle : n + (3 - n) = 3 := by omega
      rw [h3n]
      by_cases hn3 : 3 - n = 0
      · obtain rfl : n = 3 := by omega
        have hw0 : IntKind.i64.wrap 0 = 0 := by rw [IntKind.wrap_i64]; decide
        have hc : (cur.toList.take 3 ++ List.replicate (3 - 3) (Value.int .u8 0) ++ cur.toList.drop (3 + (3 - 3))).toArray = cur := by simp
        rw [hc, setRow_self w g cur 5 (0, 0) hg]
        simp [Builtin.append_, run_underlying Tryz.underlying22, run_underlying Tryz.underlying3, sizeOf, typeInfo, hi, hz2, go_sem, hw0, storeCells]
      · simp [Builtin.append_, run_underlying Tryz.underlying22, run_underlying Tryz.underlying3, sizeOf, typeInfo, hi, hz1, hz2, hwr, hn3, hz, hle, hst, go_sem, Addr.add_lit]
        rw [if_neg (by omega), if_neg (by omega)]
    · have hip : ints (pad xs) = ints xs ++ List.replicate (3 - n) (Value.int .u8 0) := by
        unfold pad ints; rw [List.map_append, List.map_replicate, hx]
      have hil : (ints xs).length = n := by unfold ints; rw [List.length_map, hx]
      refine ⟨by rw [hip, List.length_append, hil, List.length_replicate]; omega, .inr ⟨g, 3, _, rfl, hbg, setRow_heap w g cur _ 5 _ hg, Nat.le_refl _, hcm, ?_, ?_⟩⟩
      · simp; omega
      · rw [htake, hip]
        apply List.take_left'
        rw [List.length_append, hil, List.length_replicate]; omega
theorem wpList_append0 {w w' : World} {ops : Array Oper} {rest : List Oper} {o : Oper} {a : Act} {Q : Exit → Act → World → Prop} {v v' : Value} {m : Int} (hgd : o.guard = none) (s x : Operand)
    (ho : o.op = .call { callee := .builtin .append, args := #[s, x], argTypes := #[22, 3] }) (hs : a.eval s = v) (hx : a.eval x = .int .i64 m) (hrun : ∀ ty, (Builtin.append_ #[22, 3] ty #[v, .int .i64 m]).run Tryz.prog w = .ok v' w')
    (h : wpList Tryz.prog ops Q rest (a.put o.dst v') w') : wpList Tryz.prog ops Q (o :: rest) a w := by
  refine wpList_plain hgd fun K hK => ?_
  unfold Oper.wp
  simp [execOp, ho, resolve, invoke, builtin, hs, hx, hrun, Result.andThen]
  exact hK _ _ h
theorem grown_frozen {w w' : World} {gp b o : Nat} (hg : w.grownBy w' (some gp)) (h1 : b < w.heap.size) (h2 : b ≠ gp) : w'.frozen? ⟨b, o, none⟩ = w.frozen? ⟨b, o, none⟩ :=
  World.frozen?_of_block (w := w) (hg.block b h1 (fun e => h2 (by injection e)))
theorem makeB (W : World) : (Instr.makeSlice 22 (.int .i64 0) (.int .i64 3)).run Tryz.prog W = .ok (.slice (some ⟨W.heap.size, 0, none⟩) 0 3) (W.alloc (.cells #[.int .u8 0, .int .u8 0, .int .u8 0] 5)) := by kernel_rfl
set_option maxHeartbeats 4000000 in
theorem read_word (P0 cap : Nat) (p0 : ByteArray) (ts : List ByteArray) (w : World) (hE : Env2 w) (hP : P0 < w.heap.size) (hc0 : w.cell? ⟨P0, 0, none⟩ = some (.string p0)) (hno : opOf p0.data.toList = none) :
    Calls Tryz.prog 116 #[.slice (some ⟨P0, 0, none⟩) (ts.length + 1) cap] w fun e w' => e = .returned (.tuple #[.agg #[.int .u8 0, .int .u8 0, .int .u8 0, .int .u8 0], .bool false]) ∧ Below w.heap.size w w' := by
  have cOp := opOf_any p0
  rw [hno] at cOp
  have hlen : (0 : Int) < ((ts.length + 1 : Nat) : Int) := by omega
  go_enter Tryz.func116, Tryz.ntmps116
  go_wp2_with (go_at_call 129; refine (cOp _ (hE.row.on ((Below.refl _ _).alloc (Nat.le_refl _) _) hE.env.lt)).mono ?_; rintro e w1 ⟨hb1, rfl⟩; have q1 := (bcell hb1).1; have q2 := (bcell hb1).2)
  have y0 : w1.cell? ⟨w.heap.size, 0, none⟩ = some (.int .u8 0) := by rw [q1 _ _ (by simp)]; simp [go_sem]
  have y1 : w1.cell? ⟨w.heap.size, 1, none⟩ = some (.int .u8 0) := by rw [q1 _ _ (by simp)]; simp [go_sem]
  have y2 : w1.cell? ⟨w.heap.size, 2, none⟩ = some (.int .u8 0) := by rw [q1 _ _ (by simp)]; simp [go_sem]
  have y3 : w1.cell? ⟨w.heap.size, 3, none⟩ = some (.int .u8 0) := by rw [q1 _ _ (by simp)]; simp [go_sem]
  refine bodyPost_ret (v := .tuple #[.agg #[.int .u8 0, .int .u8 0, .int .u8 0, .int .u8 0], .bool false]) (by simp [results, Tryz.results116, go_sem, y0, y1, y2, y3]) rfl ⟨rfl, ?_⟩
  exact ((((((Below.refl w.heap.size w).alloc (Nat.le_refl _) _).trans (hb1.mono (by simp))).setCell (Nat.le_refl _) _).setCell (Nat.le_refl _) _).setCell (Nat.le_refl _) _).setCell (Nat.le_refl _) _
def rdRes (o : Nat) (ts : List ByteArray) : Option (List Int) := if (ksOf o).length = ts.length then rdAll (ksOf o) ts [] else none
/-- what 'read' answers -/
def rv (o : Nat) : Option (List Int) → Value
  | some l => .tuple #[.agg #[.int .u8 o, .int .u8 ((pad l).getD 0 0), .int .u8 ((pad l).getD 1 0), .int .u8 ((pad l).getD 2 0)], .bool true]
  | none => .tuple #[.agg #[.int .u8 0, .int .u8 0, .int .u8 0, .int .u8 0], .bool false]
set_option maxHeartbeats 8000000 in
theorem read_some (P0 cap o : Nat) (ho : o < 23) (p0 : ByteArray) (ts : List ByteArray) (_hcap : ts.length + 1 ≤ cap) (hcap5 : cap ≤ 5) (hc1 : 1 < cap) (w : World) (hE : Env2 w) (hP : P0 < w.heap.size)
    (hc0 : w.cell? ⟨P0, 0, none⟩ = some (.string p0)) (hcs : ∀ (i : Nat) (x : ByteArray), ts[i]? = some x → w.cell? ⟨P0, 1 + i, none⟩ = some (.string x)) (hts : ∀ x ∈ ts, x.size ≤ 281474976710656) (hop : opOf p0.data.toList = some o) :
    Calls Tryz.prog 116 #[.slice (some ⟨P0, 0, none⟩) (ts.length + 1) cap] w fun e w' => Below w.heap.size w w' ∧
      e = .returned (rv o (rdRes o ts)) := by
  have cOp := opOf_any p0
  rw [hop] at cOp
  have hlen : (0 : Int) < ((ts.length + 1 : Nat) : Int) := by omega
  have ho' : (o : Int) < 23 := by omega
  have hcap' : (1 : Int) ≤ (cap : Int) := by omega
  have hne1 : ¬ cap - 1 = 0 := by omega
  have HE : Hid (Env2 w) := hE
  have hrow := hE.row.on (w' := w.alloc (.cells #[.int .u8 0, .int .u8 0, .int .u8 0, .int .u8 0] 64)) ((Below.refl _ _).alloc (Nat.le_refl _) _) hE.env.lt
  have HCS : Hid (∀ (i : Nat) (x : ByteArray), ts[i]? = some x → w.cell? ⟨P0, 1 + i, none⟩ = some (.string x)) := hcs
  clear hE hcs
  go_enter Tryz.func116, Tryz.ntmps116
  go_wp2_with (go_at_call 129; refine (cOp _ hrow).mono ?_; rintro e w1 ⟨hb1, rfl⟩)
  have hs1 : w.heap.size < w1.heap.size := by have := hb1.size; simp at this; omega
  have HB1 : Hid (Below w.heap.size w w1) := ((Below.refl _ _).alloc (Nat.le_refl _) _).trans (hb1.mono (by simp))
  have HE1 : Hid (Env2 w1) := HE.out.on HB1.out
  obtain ⟨d0, d1, d2, d3⟩ := HE1.out.env.forms o ho
  have hl1 : 0 < w1.heap.size := by omega
  have y0 : w1.cell? ⟨w.heap.size, 0, none⟩ = some (.int .u8 0) := by rw [(bcell hb1).1 _ _ (by simp)]; simp [go_sem]
  have y1 : w1.cell? ⟨w.heap.size, 1, none⟩ = some (.int .u8 0) := by rw [(bcell hb1).1 _ _ (by simp)]; simp [go_sem]
  have y2 : w1.cell? ⟨w.heap.size, 2, none⟩ = some (.int .u8 0) := by rw [(bcell hb1).1 _ _ (by simp)]; simp [go_sem]
  have y3 : w1.cell? ⟨w.heap.size, 3, none⟩ = some (.int .u8 0) := by rw [(bcell hb1).1 _ _ (by simp)]; simp [go_sem]
  have fz1 : ∀ i, w1.frozen? ⟨w.heap.size, i, none⟩ = false := fun i => by rw [(bcell hb1).2 _ _ (by simp)]; simp [go_sem]
  clear hb1 hrow cOp
  go_cut [6, 7, 8] (fun s6 s7 s8 wx => ∃ bm, s6 = .slice (some ⟨w1.heap.size, 1, none⟩) (nKinds (fK o).1 (fK o).2.1 (fK o).2.2) 3 ∧ s7 = .slice (some ⟨P0, 1, none⟩) ts.length (cap - 1) ∧ s8 = .map (some bm) ∧
    Hmap wx bm ∧ Below (w1.heap.size + 1) (w1.alloc (.cells #[.string (fWord o), .int .u8 (fK o).1, .int .u8 (fK o).2.1, .int .u8 (fK o).2.2] 151)) wx)
  case first =>
    go_region_with (first
      | (go_at_call 108; refine (kinds_any _ _ _ _ _).mono ?_; rintro e wk ⟨rfl, rfl⟩)
      | (go_at_call 107; refine (all_any _).mono ?_; rintro e wm ⟨bm, rfl, hbm, hBm, hMm⟩))
    all_goals (go_wp2_with fail; go_meet)
    all_goals exact ⟨bm, rfl, by simp, rfl, hMm, (((Below.refl _ _).drew).trans (hBm.mono (by simp)))⟩
  case rest =>
    obtain ⟨bm, rfl, rfl, rfl, hM, hB⟩ := hcut
    obtain ⟨wq, hwq⟩ : ∃ x, x = wc := ⟨_, rfl⟩
    subst hwq
    have hsc : w1.heap.size + 1 ≤ wq.heap.size := by have := hB.size; simp at this; omega
    have HBc : Hid (Below w1.heap.size w1 wq) := ((Below.refl _ _).alloc (Nat.le_refl _) _).trans (hB.mono (by omega))
    have HBw : Hid (Below w.heap.size w wq) := HB1.out.trans (HBc.out.mono (by omega))
    have HEc : Hid (Env2 wq) := HE1.out.on HBc.out
    have z0 : wq.cell? ⟨w.heap.size, 0, none⟩ = some (.int .u8 0) := by rw [(bcell HBc.out).1 _ _ hs1]; exact y0
    have z1 : wq.cell? ⟨w.heap.size, 1, none⟩ = some (.int .u8 0) := by rw [(bcell HBc.out).1 _ _ hs1]; exact y1
    have z2 : wq.cell? ⟨w.heap.size, 2, none⟩ = some (.int .u8 0) := by rw [(bcell HBc.out).1 _ _ hs1]; exact y2
    have z3 : wq.cell? ⟨w.heap.size, 3, none⟩ = some (.int .u8 0) := by rw [(bcell HBc.out).1 _ _ hs1]; exact y3
    have HKc : Hid (∀ (i k : Nat), (ksOf o)[i]? = some k → wq.cell? ⟨w1.heap.size, 1 + (0 + i), none⟩ = some (.int .u8 (k : Nat))) := by
      intro i k hk
      rw [(bcell hB).1 _ _ (by omega)]
      rcases kList_at _ _ _ _ _ hk with ⟨rfl, rfl⟩ | ⟨rfl, rfl⟩ | ⟨rfl, rfl⟩ <;> simp [go_sem]
    have HTc : Hid (∀ (i : Nat) (x : ByteArray), ts[i]? = some x → wq.cell? ⟨P0, 1 + i, none⟩ = some (.string x)) := by
      intro i x hx
      rw [(bcell HBw.out).1 _ _ hP]
      exact HCS.out i x hx
    have hn : nKinds (fK o).1 (fK o).2.1 (fK o).2.2 = (ksOf o).length := (kList_length _ _ _).symm
    rw [hn]
    have hfit := fit_all o ho
    have hn3 : (ksOf o).length ≤ 3 := fit_len hfit
    have fzc : ∀ i, wq.frozen? ⟨w.heap.size, i, none⟩ = false := fun i => by rw [(bcell HBc.out).2 _ _ hs1]; exact fz1 i
    clear y0 y1 y2 y3 d0 d1 d2 d3 hB hn HCS HB1 HE1 HBc fz1
    by_cases hne : (ksOf o).length = ts.length
    · have hmk := makeB
      obtain ⟨n, hnn⟩ : ∃ n, ts.length = n := ⟨_, rfl⟩
      have HNK : Hid ((ksOf o).length = n) := by show _ = _; omega
      have HRS : Hid (rdRes o ts = rdAll (ksOf o) ts []) := by show _ = _; unfold rdRes; rw [if_pos hne]
      rw [hne] at hn3 ⊢
      clear hne
      have HNT : Hid (ts.length = n) := hnn
      rw [hnn] at hlen hn3 ⊢
      clear hnn
      go_wp2
      go_loopg [38, 9, 5] n (fun g s38 s9 s5 wx => ∃ (i : Nat) (ks : List Nat) (tl : List ByteArray) (xs : List Int), ks.length = g ∧ tl.length = g ∧ i + g = n ∧ s38 = .int .i64 i ∧ s9 = .slice (some ⟨wq.heap.size, 0, none⟩) xs.length 3 ∧
        wx.ownsRow wq.heap.size 5 1 (.slice (some ⟨wq.heap.size, 0, none⟩) xs.length 3) xs.length (ints xs) ∧ Below wq.heap.size wq wx ∧ wq.heap.size < wx.heap.size ∧ xs.length ≤ 3 ∧ fit ks (3 - xs.length) ∧
        Hid (rdAll ks tl xs = rdAll (ksOf o) ts []) ∧ Hid (∀ (j k : Nat), ks[j]? = some k → (ksOf o)[i + j]? = some k) ∧ Hid (∀ (j : Nat) (x : ByteArray), tl[j]? = some x → ts[i + j]? = some x))
      case atStart =>
        refine ⟨0, ksOf o, ts, [], HNK.out, HNT.out, by omega, rfl, rfl, ?_, (Below.refl _ _).alloc (Nat.le_refl _) _, by simp, by simp, hfit, rfl, fun j k h => by rw [Nat.zero_add]; exact h, fun j x h => by rw [Nat.zero_add]; exact h⟩
        exact World.ownsRow_made (base := wq.heap.size) (size := 1) (e := 5) wq _ 3 (Nat.le_refl _) (by decide) rfl
      case round =>
        obtain ⟨i, ks, tl, xs, hkl, htl, hig, rfl, rfl, hown, hbx, hsx, hx3, hft, HR, HK, HT⟩ := hrel
        cases gk with
        | zero =>
          have hks : ks = [] := List.eq_nil_of_length_eq_zero hkl
          have htl0 : tl = [] := List.eq_nil_of_length_eq_zero htl
          subst hks htl0
          have hlt : ¬ ((i : Int) < (n : Int)) := by omega
          obtain ⟨wz, hrunz, hownz, hgz⟩ := run_append0 (w := wr) rfl hx3 hown
          have HRZ : Hid (rdRes o ts = some xs) := by show _ = _; rw [HRS.out, ← HR.out]; rfl
          have hpl : (pad xs).length = 3 := by unfold pad; rw [List.length_append, List.length_replicate]; omega
          obtain ⟨b0, b1, b2, hpd⟩ : ∃ b0 b1 b2, pad xs = [b0, b1, b2] := by
            match pad xs, hpl with
            | [b0, b1, b2], _ => exact ⟨b0, b1, b2, rfl⟩
          rw [hpd] at hownz
          have e0 : wz.cell? ⟨wq.heap.size, 0, none⟩ = some (.int .u8 b0) := by have := hownz.cellAt 0 (by decide); simpa [ints] using this
          have e1 : wz.cell? ⟨wq.heap.size, 1, none⟩ = some (.int .u8 b1) := by have := hownz.cellAt 1 (by decide); simpa [ints] using this
          have e2 : wz.cell? ⟨wq.heap.size, 2, none⟩ = some (.int .u8 b2) := by have := hownz.cellAt 2 (by decide); simpa [ints] using this
          have hcz : ∀ i, wz.cell? ⟨w.heap.size, i, none⟩ = wq.cell? ⟨w.heap.size, i, none⟩ := fun i => by rw [grown_cell hgz (by omega) (by omega), (bcell hbx).1 _ _ (by omega)]
          have hfz : ∀ i, wz.frozen? ⟨w.heap.size, i, none⟩ = false := fun i => by
            rw [grown_frozen hgz (by omega) (by omega), (bcell hbx).2 _ _ (by omega)]
            exact fzc i
          have t0 := (hcz 0).trans z0
          have t1 := (hcz 1).trans z1
          have t2 := (hcz 2).trans z2
          have t3 := (hcz 3).trans z3
          have HBZ : Hid (Below wq.heap.size wq wz) := hbx.grown hgz (by omega) (fun k e => by cases e; exact Nat.le_refl _)
          have hdiff : w.heap.size ≠ wq.heap.size := by omega
          clear hcz hownz hgz hown hbx hM fzc
          go_wp2_with (at_builtin; refine wpList_append0 rfl _ _ rfl rfl rfl hrunz ?_)
          go_region
          go_wp2
          refine bodyPost_ret (v := .tuple #[.agg #[.int .u8 o, .int .u8 b0, .int .u8 b1, .int .u8 b2], .bool true]) (by simp [results, Tryz.results116, go_sem, t0, t1, t2, t3]) rfl ⟨?_, by rw [HRZ.out]; simp only [rv, hpd]; rfl⟩
          exact (((((HBw.out.trans (HBZ.out.mono (by omega))).setCell (Nat.le_refl _) _).setCell (Nat.le_refl _) _).setCell (Nat.le_refl _) _).setCell (Nat.le_refl _) _).drew
        | succ g =>
          obtain ⟨k, ks', rfl⟩ : ∃ k ks', ks = k :: ks' := by
            cases ks with
            | nil => simp at hkl
            | cons k ks' => exact ⟨k, ks', rfl⟩
          obtain ⟨t, tl', rfl⟩ : ∃ t tl', tl = t :: tl' := by
            cases tl with
            | nil => simp at htl
            | cons t tl' => exact ⟨t, tl', rfl⟩
          obtain ⟨hk1, hk5, hkn, hft'⟩ := hft
          have hkb := kSz_bd k
          have hlt : (i : Int) < (n : Int) := by omega
          have hki := HK.out 0 k rfl
          have hti := HT.out 0 t rfl
          rw [Nat.add_zero] at hki hti
          have hkc : wr.cell? ⟨w1.heap.size, 1 + i, none⟩ = some (.int .u8 (k : Nat)) := by
            rw [(bcell hbx).1 _ _ (by omega)]
            have := HKc.out i k hki
            rwa [Nat.zero_add] at this
          have htc : wr.cell? ⟨P0, 1 + i, none⟩ = some (.string t) := by
            rw [(bcell hbx).1 _ _ (by omega)]
            exact HTc.out i t hti
          obtain ⟨m, hls, hcells⟩ := (hM.below hbx).looks k hk1 hk5
          have hl := hls wr.drew rfl
          clear hls
          have hEx := HEc.out.on hbx
          have hdr : Below wr.heap.size wr wr.drew := (Below.refl _ _).drew
          have cRd := readf k m wq.heap.size wq.heap.size xs.length xs t (hts t (List.mem_of_getElem? hti)) (by omega) wr.drew (hEx.on hdr).errs (hEx.on hdr).env.pow (hcells.on hdr) hown
          clear hdr
          unfold hv at hl
          have hRR := HR.out
          simp only [rdAll] at hRR
          have HRR : Hid ((match rd k t.data.toList with | some n => rdAll ks' tl' (xs ++ kBytes k n) | none => none) = rdAll (ksOf o) ts []) := hRR
          clear hRR HR hki hti hEx
          have hf2 := fld2
          go_wp2
          go_cut [9, 5] (fun s9 s5 wx => s5 = .bool (rd k t.data.toList).isSome ∧ wr.grownBy wx (some wq.heap.size) ∧
            (∀ n, rd k t.data.toList = some n → s9 = .slice (some ⟨wq.heap.size, 0, none⟩) (xs.length + kSz k) 3 ∧ wx.ownsRow wq.heap.size 5 1 (.slice (some ⟨wq.heap.size, 0, none⟩) (xs.length + kSz k) 3) (xs.length + kSz k) (ints (xs ++ kBytes k n))))
          case first =>
            go_region_with (go_at_call 140; refine (cRd).mono ?_; rintro e wm ⟨v', rfl, hg, hv'⟩)
            all_goals (go_wp2_with fail; go_meet)
            all_goals exact ⟨by first | rfl | simp, ⟨hg.os, hg.tape, hg.output, hg.size, hg.block⟩, hv'⟩
          case rest =>
            obtain ⟨rfl, hg, hv9⟩ := hcut
            have hbc : Below wq.heap.size wq wc := hbx.grown hg (by omega) (fun k e => by cases e; exact Nat.le_refl _)
            have hsc2 : wr.heap.size ≤ wc.heap.size := hg.size
            cases hrd : rd k t.data.toList with
            | none =>
              have HRN : Hid (rdRes o ts = none) := by show _ = _; have := HRR.out; rw [hrd] at this; rw [HRS.out, ← this]
              have hcz : ∀ i, wc.cell? ⟨w.heap.size, i, none⟩ = wq.cell? ⟨w.heap.size, i, none⟩ := fun i => (bcell hbc).1 _ _ (by omega)
              have t0 := (hcz 0).trans z0
              have t1 := (hcz 1).trans z1
              have t2 := (hcz 2).trans z2
              have t3 := (hcz 3).trans z3
              have hfz : ∀ i, wc.frozen? ⟨w.heap.size, i, none⟩ = false := fun i => by rw [(bcell hbc).2 _ _ (by omega)]; exact fzc i
              have HBC : Hid (Below w.heap.size w wc) := HBw.out.trans (hbc.mono (by omega))
              clear hcz hv9 hg hM hown
              go_wp2
              try rw [Exit.noGoto_ret]
              refine bodyPost_ret (v := .tuple #[.agg #[.int .u8 0, .int .u8 0, .int .u8 0, .int .u8 0], .bool false]) (by simp [results, Tryz.results116, go_sem, t0, t1, t2, t3]) rfl ⟨?_, by rw [HRN.out]; rfl⟩
              exact (((HBC.out.setCell (Nat.le_refl _) _).setCell (Nat.le_refl _) _).setCell (Nat.le_refl _) _).setCell (Nat.le_refl _) _
            | some nn =>
              obtain ⟨rfl, hown9⟩ := hv9 nn hrd
              have hR2 : rdAll ks' tl' (xs ++ kBytes k nn) = rdAll (ksOf o) ts [] := by have := HRR.out; rwa [hrd] at this
              have HR2 : Hid (rdAll ks' tl' (xs ++ kBytes k nn) = rdAll (ksOf o) ts []) := hR2
              have hla : (xs ++ kBytes k nn).length = xs.length + kSz k := by rw [List.length_append, kBytes_length]
              rw [← hla] at hown9 ⊢
              clear hR2
              go_wp2
              go_roundg g
              case measure => omega
              case rel =>
                refine ⟨i + 1, ks', tl', xs ++ kBytes k nn, by simpa using hkl, by simpa using htl, by omega, by go_num, by rw [hla], hown9, hbc, by omega, by omega, by rw [hla, Nat.sub_add_eq]; exact hft', HR2, ?_, ?_⟩
                · intro j q hq; rw [show i + 1 + j = i + (j + 1) by omega]; exact HK.out (j + 1) q (by simpa using hq)
                · intro j q hq; rw [show i + 1 + j = i + (j + 1) by omega]; exact HT.out (j + 1) q (by simpa using hq)
    · have hne' : ¬ ((ksOf o).length : Int) = (ts.length : Int) := by omega
      go_wp2
      have hr : rdRes o ts = none := by unfold rdRes; rw [if_neg hne]
      refine bodyPost_ret (v := .tuple #[.agg #[.int .u8 0, .int .u8 0, .int .u8 0, .int .u8 0], .bool false]) (by simp [results, Tryz.results116, go_sem, z0, z1, z2, z3]) rfl ⟨?_, by rw [hr]; rfl⟩
      exact (((HBw.out.setCell (Nat.le_refl _) _).setCell (Nat.le_refl _) _).setCell (Nat.le_refl _) _).setCell (Nat.le_refl _) _
end Go.Proofs.YtcjghnnliepjjaaGreatDoor
