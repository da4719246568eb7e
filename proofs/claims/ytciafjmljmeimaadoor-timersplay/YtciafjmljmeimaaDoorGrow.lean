/- All lists of a book are grown by 40 marks each. -/
import Derived.Test.YtciafjmljmeimaaDoorFill
import Derived.Deep.AppendLies
namespace Go.Proofs.YtciafjmljmeimaaDoor
open Go Go.RowKit
set_option maxRecDepth 100000
set_option linter.unusedVariables false
theorem infoE : (Tryd.prog.info? 3).map (fun i => (i.zero, i.size, i.bytes)) = some (some (.int .i64 0), 1, 8) := by kernel_rfl
/-- one more behind a list that is one's own: in its place, or in a new block -/
theorem app2 {w : World} {B n b : Nat} {v x : Value} {xs : List Value} (hown : w.ownsRow B 3 1 v n xs) (hb : w.cell? ⟨b, 0, none⟩ = some x) (hx : x.oneCell' = true) (hn : n + 1 ≤ 2000000) (hbase : B ≤ w.heap.size) :
    ∃ g cap w', (Builtin.append_ #[43, 43] 43 #[v, .slice (some ⟨b, 0, none⟩) 1 1]).run Tryd.prog w = .ok (.slice (some ⟨g, 0, none⟩) (n + 1) cap) w' ∧ w'.ownsRow B 3 1 (.slice (some ⟨g, 0, none⟩) (n + 1) cap) (n + 1) (xs ++ [x]) ∧ ((v.ownBlock = some g ∧ Buts [g] w w') ∨ (g = w.heap.size ∧ Below w.heap.size w w')) := by
  obtain ⟨i, hi, he⟩ := Option.map_eq_some_iff.1 infoE
  have h1 : i.zero = some (.int .i64 0) := by simpa using congrArg Prod.fst he
  have h2 : i.size = 1 := by simpa using congrArg (fun x => x.2.1) he
  have h3 : i.bytes = 8 := by simpa using congrArg (fun x => x.2.2) he
  have hnews : ∀ j u, ([x] : List Value)[j]? = some u → w.cell? ((⟨b, 0, none⟩ : Addr).add j) = some u := by
    intro j u hj
    rcases j with _ | j
    · simp only [List.getElem?_cons_zero] at hj
      rw [← hj]
      exact hb
    · simp at hj
  have hone : ∀ u ∈ ([x] : List Value), u.oneCell' = true := by intro u hu; rw [List.mem_singleton] at hu; subst hu; exact hx
  obtain ⟨g, cap, w', hr, ho, hg, hat, hlt⟩ := run_append_lies (P := Tryd.prog) w 43 43 B 3 i (.int .i64 0) 1 8 Tryd.underlying43 hi h1 h2 h3 rfl (by omega) v n xs hown ⟨b, 0, none⟩ 1 1 [x] rfl hnews hone (by omega) (by simp only [maxLen]; omega) (by omega) hbase _ rfl
  refine ⟨g, cap, w', hr, ho, ?_⟩
  rcases hown.2 with ⟨rfl, rfl⟩ | ⟨g0, c0, cur, rfl, hbg, hh, hnc, hcm, hcs, htake⟩
  · have hr2 := run_append_nil (P := Tryd.prog) w 43 43 3 i (.int .i64 0) Tryd.underlying43 hi h1 ⟨b, 0, none⟩ 1 1 [x] (by rw [h2]; rfl) hnews (by omega) (by omega) (by rw [h3]; omega)
    rw [hr] at hr2
    simp only [Result.ok.injEq] at hr2
    right
    refine ⟨?_, ?_⟩
    · rcases hat with h | h
      · simp [Value.ownBlock] at h
      · exact h
    · rw [hr2.2]
      exact ((Below.refl _ _).drew).alloc (Nat.le_refl _) _
  · by_cases hroom : n + 1 ≤ c0
    · left
      have hr2 := run_append_room (P := Tryd.prog) w 43 43 3 i Tryd.underlying43 hi g0 n c0 cur hh ⟨b, 0, none⟩ 1 1 [x] (by rw [h2]; rfl) hnews hone hroom (by simp [h2]; omega)
      rw [hr] at hr2
      simp only [Result.ok.injEq, Value.slice.injEq, Option.some.injEq, Addr.mk.injEq] at hr2
      have e : g = g0 := hr2.1.1.1
      refine ⟨by rw [e]; rfl, ?_⟩
      have := Buts.grown hg
      simpa [Value.ownBlock, e] using this
    · right
      have hr2 := run_append_grow (P := Tryd.prog) w 43 43 3 i (.int .i64 0) Tryd.underlying43 hi h1 ⟨g0, 0, none⟩ n c0 xs (by rw [h2]; exact hown.1) (hown.cells (g := g0) rfl) ⟨b, 0, none⟩ 1 1 [x] (by rw [h2]; rfl) hnews (by omega) (by omega) (growslice_fits (by omega) (by rw [h3]; omega))
      rw [hr] at hr2
      simp only [Result.ok.injEq, Value.slice.injEq, Option.some.injEq, Addr.mk.injEq] at hr2
      refine ⟨hr2.1.1.1, ?_⟩
      rw [hr2.2]
      exact ((Below.refl _ _).drew).alloc (Nat.le_refl _) _
/-- the same at the call -/
theorem wpList_gapp2 {w : World} {ops : Array Oper} {rest : List Oper} {o : Oper} {a : Act} {Q : Exit → Act → World → Prop} (hgd : o.guard = none) (s x : Operand)
    (ho : o.op = .call { callee := .builtin .append, args := #[s, x], argTypes := #[43, 43] }) (hty : o.type = 43) {B n b : Nat} {v u : Value} {xs : List Value} (hse : a.eval s = v) (hx : a.eval x = .slice (some ⟨b, 0, none⟩) 1 1)
    (hown : w.ownsRow B 3 1 v n xs) (hb : w.cell? ⟨b, 0, none⟩ = some u) (hu : u.oneCell' = true) (hn : n + 1 ≤ 2000000) (hbase : B ≤ w.heap.size)
    (h : ∀ g cap w', Hid (w'.ownsRow B 3 1 (.slice (some ⟨g, 0, none⟩) (n + 1) cap) (n + 1) (xs ++ [u])) → Hid ((v.ownBlock = some g ∧ Buts [g] w w') ∨ (g = w.heap.size ∧ Below w.heap.size w w')) → wpList Tryd.prog ops Q rest (a.put o.dst (.slice (some ⟨g, 0, none⟩) (n + 1) cap)) w') : wpList Tryd.prog ops Q (o :: rest) a w := by
  refine wpList_plain hgd fun K hK => ?_
  obtain ⟨g, cap, w', hr, h1, h2⟩ := app2 hown hb hu hn hbase
  unfold Oper.wp execOp
  simp only [ho, resolve, invoke, builtin, Sem.run_bind, Sem.run_pure, Result.andThen_ok, List.map_toArray, List.map_cons, List.map_nil, hse, hx]
  rw [hty, hr]
  exact hK _ _ (h g cap w' h1 h2)
/-- a list that can be read: so many, all the same -/
def Rd (w : World) (v : Value) (n : Nat) (x : Value) : Prop := ∃ sp cap, v = .slice sp n cap ∧ (0 < n → ∃ g cur, sp = some ⟨g, 0, none⟩ ∧ w.heap[g]? = some (.cells cur 3 (0, 0)) ∧ ∀ q, q < n → cur[q]? = some x)
theorem Rd.of {w : World} {B : Nat} {v : Value} {n : Nat} {x : Value} (h : w.ownsRow B 3 1 v n (List.replicate n x)) : Rd w v n x := by
  rcases h.2 with ⟨rfl, rfl⟩ | ⟨g, cap, cur, rfl, _, hh, hc, _, hs, ht⟩
  · exact ⟨none, 0, rfl, by omega⟩
  · refine ⟨_, cap, rfl, fun _ => ⟨g, cur, rfl, hh, fun q hq => ?_⟩⟩
    have : (List.replicate n x)[q]? = some x := by simp [hq]
    rw [← ht, List.getElem?_take, if_pos (by omega)] at this
    simpa using this
theorem Rd.buts {w w' : World} {l : List Nat} {v : Value} {n : Nat} {x : Value} (h : Rd w v n x) (hb : Buts l w w') (hl : ∀ g cur, 0 < n → v.ownBlock = some g → w.heap[g]? = some (.cells cur 3 (0, 0)) → g ∉ l) : Rd w' v n x := by
  obtain ⟨sp, cap, rfl, hc⟩ := h
  refine ⟨sp, cap, rfl, fun hn => ?_⟩
  obtain ⟨g, cur, rfl, hh, hq⟩ := hc hn
  exact ⟨g, cur, rfl, (hb.block g (at_lt hh) (hl g cur hn rfl hh)).trans hh, hq⟩
/-- the lists while they are grown -/
structure Gl (B : Nat) (w : World) (E : List Ent) (i : Nat) : Prop where
  own : ∀ (j : Nat) (e : Ent), i ≤ j → E[j]? = some e → w.ownsRow B 3 1 e.v e.len (List.replicate e.len (.int .i64 (mk e.num)))
  rdv : ∀ (j : Nat) (e : Ent), j < i → E[j]? = some e → Rd w e.v e.len (.int .i64 (mk e.num))
  rdl : ∀ (j : Nat) (e : Ent), j < i → E[j]? = some e → Rd w e.long (e.len + 40) (.int .i64 (mk e.num))
  far : ∀ (j k : Nat) (e f : Ent), j < i → i ≤ k → E[j]? = some e → E[k]? = some f → ∀ g, e.long.ownBlock = some g → f.v.ownBlock ≠ some g
  sep : ∀ (j k : Nat) (e f : Ent), j ≠ k → E[j]? = some e → E[k]? = some f → ∀ g, e.v.ownBlock = some g → f.v.ownBlock ≠ some g
  num : ∀ (j : Nat) (e : Ent), E[j]? = some e → 0 ≤ e.num ∧ e.num ≤ 1000
  len : ∀ (j : Nat) (e : Ent), E[j]? = some e → e.len ≤ 1000000
theorem Gl.start {B : Nat} {w : World} {E : List Ent} (h : Lists B w E E.length) : Gl B w E 0 :=
  ⟨fun j e _ he => by
    obtain ⟨ys, ho, hy⟩ := h.own j e he
    rw [← hy (List.getElem?_eq_some_iff.1 he).1]
    exact ho, fun j e hj => by omega, fun j e hj => by omega, fun j k e f hj => by omega, h.sep, h.num, h.len⟩
theorem set_cases {E : List Ent} {i j : Nat} {e f : Ent} {V : Value} (he : E[i]? = some e) (hf : (E.set i { e with long := V })[j]? = some f) :
    (j = i ∧ f = { e with long := V }) ∨ (j ≠ i ∧ E[j]? = some f) := by
  have hi : i < E.length := (List.getElem?_eq_some_iff.1 he).1
  by_cases h : j = i
  · subst h
    rw [List.getElem?_set_self hi] at hf
    exact Or.inl ⟨rfl, (Option.some.inj hf).symm⟩
  · rw [List.getElem?_set_ne (Ne.symm h)] at hf
    exact Or.inr ⟨h, hf⟩
theorem grow_end {B : Nat} {wr w0 wx : World} {K H cap : Nat} {n : Int} {E : List Ent} {i : Nat} {e : Ent} {V : Value} (hb : Bk B wr K n (.slice (some ⟨H, 0, none⟩) E.length cap) E) (hl : Gl B wr E i) (he : E[i]? = some e) (h1 : Below wr.heap.size wr w0) (hV : Buts e.v.ownBlock.toList w0 wx)
    (ho : wx.ownsRow B 3 1 V (e.len + 40) (List.replicate (e.len + 40) (.int .i64 (mk e.num)))) (hr : Rd wx e.v e.len (.int .i64 (mk e.num))) (hloc : ∀ g, V.ownBlock = some g → e.v.ownBlock = some g ∨ w0.heap.size ≤ g) :
    Bk B (wx.setCell ⟨H, i * 3 + 1, none⟩ V) K n (.slice (some ⟨H, 0, none⟩) E.length cap) (E.set i { e with long := V }) ∧ Gl B (wx.setCell ⟨H, i * 3 + 1, none⟩ V) (E.set i { e with long := V }) (i + 1) ∧ Below B wr (wx.setCell ⟨H, i * 3 + 1, none⟩ V) := by
  have hu : Buts e.v.ownBlock.toList wr wx := (Buts.of h1).trans hV
  have hy := hl.own i e (Nat.le_refl _) he
  have hbx : Bk B wx K n (.slice (some ⟨H, 0, none⟩) E.length cap) E := by
    refine hb.buts hu ?_ ?_
    · intro hm
      exact block_ne hy (by simpa using hm) hb.head (by decide) rfl
    · intro g hg hm
      exact own_ne hy (by simpa using hm) hb.row hg (by decide) rfl
  have hS : Buts [H] wx (wx.setCell ⟨H, i * 3 + 1, none⟩ V) := Buts.cell _ _ _ _
  have hHK : H ≠ K := hb.ne H rfl
  obtain ⟨curH, hHh⟩ : ∃ cur, wx.heap[H]? = some (.cells cur 76 (0, 0)) := by
    rcases hbx.row.2 with ⟨e', _⟩ | ⟨g', c, cur, e', _, hh, _⟩
    · cases e'
    · simp only [Value.slice.injEq, Option.some.injEq, Addr.mk.injEq, and_true, true_and] at e'
      obtain ⟨rfl, rfl⟩ := e'
      exact ⟨cur, hh⟩
  have hnH : ∀ g cur, wx.heap[g]? = some (.cells cur 3 (0, 0)) → g ∉ [H] := by
    intro g cur hg hm
    have : g = H := by simpa using hm
    subst this
    rw [hHh] at hg
    simp only [Option.some.injEq, Obj.cells.injEq] at hg
    exact absurd hg.2.1 (by decide)
  have hoH : ∀ (x : Value) (m : Nat) (xs : List Value), wx.ownsRow B 3 1 x m xs → ∀ g, x.ownBlock = some g → g ∉ [H] := by
    intro x m xs hx g hg hm
    exact own_ne hx hg hbx.row rfl (by decide) (by simpa using hm)
  obtain ⟨sV, cV, eV, -, -, -⟩ := own_form ho
  refine ⟨⟨?_, ?_, hb.ne, hb.base, by rw [List.length_set]; exact hb.few, hb.small, ?_⟩, ⟨?_, ?_, ?_, ?_, ?_, ?_, ?_⟩, ?_⟩
  · exact (hS.block K (at_lt hbx.head) (by simpa using (Ne.symm hHK))).trans hbx.head
  · have := (hbx.row.stored (i * 3 + 1) V).1
    rw [flat_set E i e V he] at this
    rw [List.length_set]
    exact this
  · intro j f hf
    rcases set_cases he hf with ⟨rfl, rfl⟩ | ⟨_, hf'⟩
    · exact ⟨_, _, _, eV⟩
    · exact hb.lng j f hf'
  · intro j f hj hf
    rcases set_cases he hf with ⟨rfl, rfl⟩ | ⟨hne, hf'⟩
    · omega
    · have h2 := owns_buts (hl.own j f (by omega) hf') hu (fun g hg hm => hl.sep j i f e hne hf' he g hg (by simpa using hm))
      exact owns_buts h2 hS (fun g hg => hoH _ _ _ h2 g hg)
  · intro j f hj hf
    rcases set_cases he hf with ⟨rfl, rfl⟩ | ⟨hne, hf'⟩
    · exact hr.buts hS (fun g cur _ _ hg => hnH g cur hg)
    · exact ((hl.rdv j f (by omega) hf').buts hu (fun g cur _ hg _ hm => hl.sep j i f e hne hf' he g hg (by simpa using hm))).buts hS (fun g cur _ _ hg => hnH g cur hg)
  · intro j f hj hf
    rcases set_cases he hf with ⟨rfl, rfl⟩ | ⟨hne, hf'⟩
    · exact (Rd.of ho).buts hS (fun g cur _ _ hg => hnH g cur hg)
    · exact ((hl.rdl j f (by omega) hf').buts hu (fun g cur _ hg _ hm => hl.far j i f e (by omega) (Nat.le_refl _) hf' he g hg (by simpa using hm))).buts hS (fun g cur _ _ hg => hnH g cur hg)
  · intro j k f f2 hj hk hf hf2 g hg
    rcases set_cases he hf2 with ⟨rfl, rfl⟩ | ⟨hne2, hf2'⟩
    · omega
    · rcases set_cases he hf with ⟨rfl, rfl⟩ | ⟨hne, hf'⟩
      · rcases hloc g hg with h | h
        · exact hl.sep j k e f2 (by omega) he hf2' g h
        · intro h'
          have := (hl.own k f2 (by omega) hf2').lt g h'
          have := h1.size
          omega
      · exact hl.far j k f f2 (by omega) (by omega) hf' hf2' g hg
  · intro j k f f2 hjk hf hf2 g hg
    rcases set_cases he hf with ⟨rfl, rfl⟩ | ⟨hne, hf'⟩
    · rcases set_cases he hf2 with ⟨rfl, rfl⟩ | ⟨hne2, hf2'⟩
      · exact absurd rfl hjk
      · exact hl.sep j k e f2 hjk he hf2' g hg
    · rcases set_cases he hf2 with ⟨rfl, rfl⟩ | ⟨hne2, hf2'⟩
      · exact hl.sep j k f e hjk hf' he g hg
      · exact hl.sep j k f f2 hjk hf' hf2' g hg
  · intro j f hf
    rcases set_cases he hf with ⟨rfl, rfl⟩ | ⟨hne, hf'⟩
    · exact hl.num j e he
    · exact hl.num j f hf'
  · intro j f hf
    rcases set_cases he hf with ⟨rfl, rfl⟩ | ⟨hne, hf'⟩
    · exact hl.len j e he
    · exact hl.len j f hf'
  · have hBw : B ≤ wr.heap.size := Nat.le_trans hb.base (Nat.le_of_lt (at_lt hb.head))
    refine (hu.below (fun x hx => (hy.lt x (by simpa using hx)).1) hBw).trans (hS.below (fun x hx => ?_) (Nat.le_trans hBw hu.size))
    have : x = H := by simpa using hx
    rw [this]
    exact (hb.row.lt H rfl).1
end Go.Proofs.YtciafjmljmeimaaDoor
