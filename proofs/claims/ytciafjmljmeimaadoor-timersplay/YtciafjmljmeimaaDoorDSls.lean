/- slices.Insert and slices.Delete at links: two cells each. -/
import Derived.Test.YtciafjmljmeimaaDoorDMem
import Derived.Lib.Overlaps
import Derived.Lib.AppendZerosOnto
import Derived.Laws.NewBlocks
import Derived.ArgAppend
namespace Go.Proofs.YtciafjmljmeimaaDoor
open Go Go.RowKit
set_option maxRecDepth 100000
set_option linter.unusedVariables false
set_option linter.unusedSimpArgs false
theorem addr_add (g k j : Nat) : (⟨g, k, none⟩ : Addr).add j = ⟨g, k + j, none⟩ := by unfold Addr.add; split <;> simp_all
/-- copy of links into a row that is known -/
theorem run_copy2 (w : World) (ty : TypeId) (g off dLen dCap : Nat) (ad : Addr) (sLen sCap : Nat) (cur : Array Value) (cs : List Value)
    (hg : w.heap[g]? = some (.cells cur 137 (0, 0))) (hn : cs.length = Nat.min sLen dLen * 2) (hsrc : ∀ j v, cs[j]? = some v → w.cell? (ad.add j) = some v) (hfit : off + cs.length ≤ cur.size) (h1 : ∀ v ∈ cs, v.oneCell' = true) :
    (Builtin.copy_ #[66, 66] ty #[.slice (some ⟨g, off, none⟩) dLen dCap, .slice (some ad) sLen sCap]).run Tryd.prog w =
      .ok (goInt (Nat.min sLen dLen)) (w.setRow g (cur.toList.take off ++ cs ++ cur.toList.drop (off + cs.length)).toArray) := by
  have hl := run_loadCells_list (P := Tryd.prog) w ad cs hsrc
  have hst := run_storeCells_at Tryd.prog g off 137 cs 0 cur w hg (by simpa using hfit) h1
  obtain ⟨i, hi, hz, hs, hby⟩ := info_parts' infoK
  simp [Builtin.copy_, run_underlying Tryd.underlying66, Builtin.lenOf, Builtin.firstCells, sizeOf, typeInfo, hi, hs, ← hn, hl, hst]
theorem setRow_buts (w : World) (g : Nat) (cs : Array Value) : Buts [g] w (w.setRow g cs) :=
  ⟨rfl, rfl, rfl, by simp [World.setRow], fun k hk hg => setRow_other w g k cs (by simpa using hg)⟩
theorem setRow_grown (w : World) (g : Nat) (cs : Array Value) : w.grownBy (w.setRow g cs) (some g) :=
  ⟨rfl, rfl, rfl, by simp [World.setRow], fun k hk hg => setRow_other w g k cs (fun e => hg (by rw [e]))⟩
theorem copy2 (w : World) (ty : TypeId) (g off dLen dCap : Nat) (ad : Addr) (sLen sCap : Nat) (cur : List Value) (cs : List Value)
    (hg : w.heap[g]? = some (.cells cur.toArray 137 (0, 0))) (hn : cs.length = Nat.min sLen dLen * 2) (hsrc : ∀ j v, cs[j]? = some v → w.cell? (ad.add j) = some v) (hfit : off + cs.length ≤ cur.length) (h1 : ∀ v ∈ cs, v.oneCell' = true) :
    ∃ w', (Builtin.copy_ #[66, 66] ty #[.slice (some ⟨g, off, none⟩) dLen dCap, .slice (some ad) sLen sCap]).run Tryd.prog w = .ok (goInt (Nat.min sLen dLen)) w' ∧ Hid (w'.heap[g]? = some (.cells (splice cur off cs).toArray 137 (0, 0))) ∧ Hid (Buts [g] w w') := by
  refine ⟨_, run_copy2 w ty g off dLen dCap ad sLen sCap cur.toArray cs hg hn hsrc (by simpa using hfit) h1, ?_, setRow_buts _ _ _⟩
  show _ = _
  rw [setRow_heap w g cur.toArray _ 137 _ hg]
  simp [splice]
/-- .. as a step of a walk -/
theorem wpList_copy2 {w : World} {ops : Array Oper} {rest : List Oper} {o : Oper} {a : Go.Act} {Q : Exit → Go.Act → World → Prop} (hgd : o.guard = none) (d s : Operand)
    (ho : o.op = .call { callee := .builtin .copy, args := #[d, s], argTypes := #[66, 66] }) (g off dLen dCap : Nat) (ad : Addr) (sLen sCap : Nat) (cur : List Value) (cs : List Value)
    (hd : a.eval d = .slice (some ⟨g, off, none⟩) dLen dCap) (hs : a.eval s = .slice (some ad) sLen sCap)
    (hg : w.heap[g]? = some (.cells cur.toArray 137 (0, 0))) (hn : cs.length = Nat.min sLen dLen * 2) (hsrc : ∀ j v, cs[j]? = some v → w.cell? (ad.add j) = some v) (hfit : off + cs.length ≤ cur.length) (h1 : ∀ v ∈ cs, v.oneCell' = true)
    (h : ∀ w', Hid (w'.heap[g]? = some (.cells (splice cur off cs).toArray 137 (0, 0))) → Hid (Buts [g] w w') → wpList Tryd.prog ops Q rest (a.put o.dst (goInt (Nat.min sLen dLen))) w') : wpList Tryd.prog ops Q (o :: rest) a w := by
  refine wpList_plain hgd fun K hK => ?_
  have hr := run_copy2 w o.type g off dLen dCap ad sLen sCap cur.toArray cs hg hn hsrc (by simpa using hfit) h1
  unfold Oper.wp execOp
  simp only [ho, resolve, invoke, builtin, Sem.run_bind, Sem.run_pure, Result.andThen_ok, List.map_toArray, List.map_cons, List.map_nil, hd, hs, hr]
  refine hK _ _ (h _ ?_ (setRow_buts _ _ _))
  show _ = _
  rw [setRow_heap w g cur.toArray _ 137 _ hg]
  simp [splice]
theorem step_copy2 {w : World} {ops : Array Oper} {o : Oper} {a : Go.Act} {K : Go.Act → World → Prop} {Q : Exit → Go.Act → World → Prop} {X : Prop} (hgd : o.guard = none) (d s : Operand)
    (ho : o.op = .call { callee := .builtin .copy, args := #[d, s], argTypes := #[66, 66] }) (g off dLen dCap : Nat) (ad : Addr) (sLen sCap : Nat) (cur : List Value) (cs : List Value)
    (hd : a.eval d = .slice (some ⟨g, off, none⟩) dLen dCap) (hs : a.eval s = .slice (some ad) sLen sCap)
    (hg : w.heap[g]? = some (.cells cur.toArray 137 (0, 0))) (hn : cs.length = Nat.min sLen dLen * 2) (hsrc : ∀ j v, cs[j]? = some v → w.cell? (ad.add j) = some v) (hfit : off + cs.length ≤ cur.length) (h1 : ∀ v ∈ cs, v.oneCell' = true)
    (h : ∀ w', Hid (w'.heap[g]? = some (.cells (splice cur off cs).toArray 137 (0, 0))) → Hid (Buts [g] w w') → K (a.put o.dst (goInt (Nat.min sLen dLen))) w') : if Region.wanted o (yielded ops a.tmps) = true then Oper.wp Tryd.prog o a w K Q else X := by
  have hw : Region.wanted o (yielded ops a.tmps) = true := by simp [Region.wanted, hgd]
  rw [if_pos hw]
  have hr := run_copy2 w o.type g off dLen dCap ad sLen sCap cur.toArray cs hg hn hsrc (by simpa using hfit) h1
  unfold Oper.wp execOp
  simp only [ho, resolve, invoke, builtin, Sem.run_bind, Sem.run_pure, Result.andThen_ok, List.map_toArray, List.map_cons, List.map_nil, hd, hs, hr]
  refine h _ ?_ (setRow_buts _ _ _)
  show _ = _
  rw [setRow_heap w g cur.toArray _ 137 _ hg]
  simp [splice]
/-- append where there is room, as a step of a region that draws its order -/
theorem step_fits2 {w : World} {ops : Array Oper} {o : Oper} {a : Go.Act} {K : Go.Act → World → Prop} {Q : Exit → Go.Act → World → Prop} {X : Prop} (hgd : o.guard = none) (s x : Operand)
    (ho : o.op = .call { callee := .builtin .append, args := #[s, x], argTypes := #[66, 66] }) (B g i cap : Nat) (xs : List Value) (hs : a.eval s = .slice (some ⟨g, 0, none⟩) i cap) (hown : w.ownsRow B 137 2 (.slice (some ⟨g, 0, none⟩) i cap) i xs)
    (ad : Addr) (m c : Nat) (news : List Value) (hx : a.eval x = .slice (some ad) m c) (hl : news.length = m * 2) (hnews : ∀ j u, news[j]? = some u → w.cell? (ad.add j) = some u) (h1 : ∀ u ∈ news, u.oneCell' = true) (hroom : i + m ≤ cap)
    (h : ∀ w', Hid (w'.ownsRow B 137 2 (.slice (some ⟨g, 0, none⟩) (i + m) cap) (i + m) (xs ++ news)) → Hid (Buts [g] w w') → K (a.put o.dst (.slice (some ⟨g, 0, none⟩) (i + m) cap)) w') : if Region.wanted o (yielded ops a.tmps) = true then Oper.wp Tryd.prog o a w K Q else X := by
  have hw : Region.wanted o (yielded ops a.tmps) = true := by simp [Region.wanted, hgd]
  rw [if_pos hw]
  obtain ⟨i0, hi, hz, hs0, hby⟩ := info_parts' infoK
  obtain ⟨w', hr, ho', hg⟩ := run_append_fits (P := Tryd.prog) w B 66 o.type 137 i0 2 Tryd.underlying66 hi hs0 g i cap xs hown ad m c news hl hnews h1 hroom
  unfold Oper.wp execOp
  simp only [ho, resolve, invoke, builtin, Sem.run_bind, Sem.run_pure, Result.andThen_ok, List.map_toArray, List.map_cons, List.map_nil, hs, hx, hr]
  exact h _ ho' (Buts.grown hg)
theorem zero_cells (m : Nat) : (Builtin.zeroCells (Value.agg #[.int .i64 0, .int .i64 0]).cells m).toList.length = m * 2 ∧ ∀ v ∈ (Builtin.zeroCells (Value.agg #[.int .i64 0, .int .i64 0]).cells m).toList, v.oneCell' = true := by
  refine ⟨by simp [Builtin.zeroCells, Value.cells], fun v hv => ?_⟩
  simp only [Builtin.zeroCells, Value.cells, Array.toList_map, List.mem_map] at hv
  obtain ⟨k, _, rfl⟩ := hv
  have : k % 2 = 0 ∨ k % 2 = 1 := by omega
  rcases this with e | e <;> simp [e, Value.oneCell']
/-- clear of what lies behind a row's end -/
theorem run_clear2 (w : World) (ty : TypeId) (B g k n cap c : Nat) (xs : List Value) (hown : w.ownsRow B 137 2 (.slice (some ⟨g, 0, none⟩) k cap) k xs) (hk : k < n) (hn : n ≤ cap) :
    ∃ w', (Builtin.clear_ #[66] ty #[.slice (some ⟨g, k * 2, none⟩) (n - k) c]).run Tryd.prog w = .ok (.tuple #[]) w' ∧ w'.ownsRow B 137 2 (.slice (some ⟨g, 0, none⟩) k cap) k xs ∧ Buts [g] w w' := by
  rcases hown.2 with ⟨h, _⟩ | ⟨g', cap', cur, h, hbg, hg, hnc, hcm, hcs, htake⟩
  · simp at h
  simp only [Value.slice.injEq, Option.some.injEq, Addr.mk.injEq, and_true, true_and] at h
  obtain ⟨rfl, rfl⟩ := h
  obtain ⟨hzl, hz1⟩ := zero_cells (n - k)
  have hst := run_storeCells_at Tryd.prog g (k * 2) 137 _ 0 cur w hg (by rw [hzl, hcs]; omega) hz1
  have hzv : ∀ w, (zeroValue 137).run Tryd.prog w = .ok (.agg #[.int .i64 0, .int .i64 0]) w := Tryd.zeroValue137
  obtain ⟨m, hm⟩ : ∃ m, n - k = m + 1 := ⟨n - k - 1, by omega⟩
  obtain ⟨Z, hZ⟩ : ∃ Z, (Builtin.zeroCells (Value.agg #[.int .i64 0, .int .i64 0]).cells (n - k)).toList = Z := ⟨_, rfl⟩
  rw [hZ] at hst hzl
  rw [hm] at hZ ⊢
  simp only [Nat.add_zero] at hst
  refine ⟨w.setRow g (cur.toList.take (k * 2) ++ Z ++ cur.toList.drop (k * 2 + Z.length)).toArray, ?_, ⟨hown.1, .inr ⟨g, cap, _, rfl, hbg, setRow_heap w g cur _ 137 _ hg, hnc, hcm, ?_, ?_⟩⟩, setRow_buts _ _ _⟩
  · simp [Builtin.clear_, run_underlying Tryd.underlying66, hzv, hZ, hst]
  · simp only [List.size_toArray, List.length_append, List.length_take, List.length_drop, Array.length_toList, hzl]
    omega
  · simp only
    rw [List.append_assoc, List.take_append_of_le_length (by simp; omega), List.take_take, Nat.min_self]
    exact htake
theorem wpList_clear2 {w : World} {ops : Array Oper} {rest : List Oper} {o : Oper} {a : Go.Act} {Q : Exit → Go.Act → World → Prop} (hgd : o.guard = none) (x : Operand)
    (ho : o.op = .call { callee := .builtin .clear, args := #[x], argTypes := #[66] }) (B g k n cap c m : Nat) (xs : List Value) (hx : a.eval x = .slice (some ⟨g, k * 2, none⟩) m c) (hm : m = n - k) (hown : w.ownsRow B 137 2 (.slice (some ⟨g, 0, none⟩) k cap) k xs) (hk : k < n) (hn : n ≤ cap)
    (h : ∀ w', Hid (w'.ownsRow B 137 2 (.slice (some ⟨g, 0, none⟩) k cap) k xs) → Hid (Buts [g] w w') → wpList Tryd.prog ops Q rest (a.put o.dst (.tuple #[])) w') : wpList Tryd.prog ops Q (o :: rest) a w := by
  subst hm
  refine wpList_plain hgd fun K hK => ?_
  obtain ⟨w', hr, h2, h3⟩ := run_clear2 w o.type B g k n cap c xs hown hk hn
  unfold Oper.wp execOp
  simp only [ho, resolve, invoke, builtin, Sem.run_bind, Sem.run_pure, Result.andThen_ok, List.map_toArray, List.map_cons, List.map_nil, hx, hr]
  exact hK _ _ (h _ h2 h3)
theorem owns_cut {w : World} {B g n cap : Nat} {ds : List (Int × Int)} (h : Own B w (.slice (some ⟨g, 0, none⟩) n cap) ds) (hn : n = ds.length) (i : Nat) (hi : i ≤ ds.length) : w.ownsRow B 137 2 (.slice (some ⟨g, 0, none⟩) i cap) i (lks (ds.take i)) := by
  subst hn
  rcases h.2 with ⟨h', _⟩ | ⟨g', cap', cur, h', hbg, hg, hnc, hcm, hcs, htake⟩
  · simp at h'
  simp only [Value.slice.injEq, Option.some.injEq, Addr.mk.injEq, and_true, true_and] at h'
  obtain ⟨rfl, rfl⟩ := h'
  refine ⟨by rw [lks_len]; simp; omega, .inr ⟨g, cap, cur, rfl, hbg, hg, by omega, hcm, hcs, ?_⟩⟩
  rw [lks_take, ← htake, List.take_take, Nat.min_eq_left (by omega)]
theorem drop_cells {w : World} {B g n cap : Nat} {ds : List (Int × Int)} (h : Own B w (.slice (some ⟨g, 0, none⟩) n cap) ds) (hn : n = ds.length) (k : Nat) : ∀ j u, (lks (ds.drop k))[j]? = some u → w.cell? ((⟨g, k * 2, none⟩ : Addr).add j) = some u := by
  subst hn
  intro j u hj
  rw [lks_drop, List.getElem?_drop] at hj
  have hlt : k * 2 + j < ds.length * 2 := by
    rcases Nat.lt_or_ge (k * 2 + j) (ds.length * 2) with c | c
    · exact c
    · rw [List.getElem?_eq_none (by rw [lks_len]; exact c)] at hj; cases hj
  have h' : w.ownsRow B 137 2 (.slice (some ⟨g, 0, none⟩) ds.length cap) ds.length (lks ds) := h
  rw [addr_add, h'.cellAt _ hlt]
  exact hj
theorem delete_same (w : World) (sp : Option Addr) (n cap i : Nat) (hi : i ≤ n) (hn : n ≤ cap) (hc : cap ≤ maxLen) (h0 : sp = none → n = 0 ∧ cap = 0) (hp : ∀ a, sp = some a → ∃ g, a = ⟨g, 0, none⟩) :
    Calls Tryd.prog 78 #[.slice sp n cap, .int .i64 i, .int .i64 i] w fun e w' => e = .returned (.slice sp n cap) ∧ w' = w := by
  simp only [maxLen] at hc
  cases sp with
  | none =>
    obtain ⟨rfl, rfl⟩ := h0 rfl
    obtain rfl : i = 0 := by omega
    go_enter Tryd.func78, Tryd.ntmps78
    go_wp2
    all_goals (go_ret; exact ⟨rfl, rfl⟩)
  | some a =>
    obtain ⟨g, rfl⟩ := hp a rfl
    clear h0 hp
    have a1 : (i : Int) ≤ n := by omega
    have a2 : (n : Int) ≤ cap := by omega
    go_enter Tryd.func78, Tryd.ntmps78
    go_wp2
    all_goals (go_ret; exact ⟨rfl, rfl⟩)
set_option maxHeartbeats 2000000 in
theorem delete_some {B : Nat} {w : World} {g n cap i j : Nat} {ds : List (Int × Int)} (h : Own B w (.slice (some ⟨g, 0, none⟩) n cap) ds) (hl : n = ds.length) (hij : i < j) (hj : j ≤ n) (hn : n ≤ cap) (hc : cap ≤ maxLen) :
    Calls Tryd.prog 78 #[.slice (some ⟨g, 0, none⟩) n cap, .int .i64 i, .int .i64 j] w fun e w' => e = .returned (.slice (some ⟨g, 0, none⟩) (i + (n - j)) cap) ∧ Own B w' (.slice (some ⟨g, 0, none⟩) (i + (n - j)) cap) (ds.take i ++ ds.drop j) ∧ Buts [g] w w' := by
  simp only [maxLen] at hc
  have HO : Hid (w.drew.ownsRow B 137 2 (.slice (some ⟨g, 0, none⟩) i cap) i (lks (ds.take i))) := owns_cut h hl i (by omega)
  have HC : Hid (∀ k u, (lks (ds.drop j))[k]? = some u → w.drew.cell? ((⟨g, j * 2, none⟩ : Addr).add k) = some u) := drop_cells h hl j
  have HD : Hid (cap = j → ds.drop j = []) := fun e => List.drop_eq_nil_of_le (by omega)
  have HL : Hid ((lks (ds.drop j)).length = (n - j) * 2) := by show _ = _; rw [lks_len, List.length_drop, hl]
  have HT : Hid ((ds.take i).length = i) := by show _ = _; rw [List.length_take]; omega
  have HDL : Hid ((ds.drop j).length = n - j) := by show _ = _; rw [List.length_drop]; omega
  clear h hl
  have a1 : (i : Int) ≤ j := by omega
  have a2 : (j : Int) ≤ n := by omega
  have a3 : (n : Int) ≤ cap := by omega
  have a4 : ¬ ((i : Int) = j) := by omega
  have a5 : (i : Int) ≤ cap := by omega
  have a6 : (j : Int) ≤ cap := by omega
  have b1 : i ≤ cap := by omega
  have b2 : j ≤ cap := by omega
  have b3 : ¬ (cap = i + (n - j)) := by omega
  have b4 : i + (n - j) ≤ n := by omega
  have b5 : (i : Int) + ((n - j : Nat) : Int) ≤ n := by omega
  obtain ⟨AD, hA, HS⟩ : ∃ AD : Addr, (if cap = j then some (⟨g, 0, none⟩ : Addr) else some ⟨g, j * 2, none⟩) = some AD ∧ Hid (∀ k u, (lks (ds.drop j))[k]? = some u → w.drew.cell? (AD.add k) = some u) := by
    by_cases hcj : cap = j
    · refine ⟨⟨g, 0, none⟩, by rw [if_pos hcj], fun k u hk => ?_⟩
      rw [HD.out hcj] at hk
      simp [lks] at hk
    · exact ⟨⟨g, j * 2, none⟩, by rw [if_neg hcj], HC⟩
  go_enter Tryd.func78, Tryd.ntmps78
  go_wp2_with fail
  go_region_law (refine step_fits2 rfl _ _ rfl B g i cap (lks (ds.take i)) (by simp [Act.eval, Act.put]) HO.out AD (n - j) (cap - j) (lks (ds.drop j)) (by simp [Act.eval, Act.put]) HL.out HS.out (lks_one _) (by omega) ?_; intro w1 HO1 HB1)
  obtain ⟨w2, hr2, ho2, hb2⟩ := run_clear2 w1 0 B g (i + (n - j)) n cap (cap - (i + (n - j))) _ HO1.out (by omega) (by omega)
  have HO2 : Hid (w2.ownsRow B 137 2 (.slice (some ⟨g, 0, none⟩) (i + (n - j)) cap) (i + (n - j)) (lks (ds.take i) ++ lks (ds.drop j))) := ho2
  have HB2 : Hid (Buts [g] w1 w2) := hb2
  clear ho2 hb2
  go_wp2
  go_ret
  refine ⟨rfl, ?_, (Buts.refl [g] w).drew.trans (HB1.out.trans HB2.out)⟩
  have := HO2.out
  rw [← lks_app] at this
  unfold Own
  rw [List.length_append, HT.out, HDL.out]
  exact this
end Go.Proofs.YtciafjmljmeimaaDoor
