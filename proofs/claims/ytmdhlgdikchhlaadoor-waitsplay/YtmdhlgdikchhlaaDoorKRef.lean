/- The document's own queue, as it lies in memory; where somebody is. -/
import Derived.Test.YtmdhlgdikchhlaaDoorFirst
namespace Go.Proofs.YtmdhlgdikchhlaaDoor
open Go Go.RowKit
set_option maxRecDepth 100000
set_option linter.unusedVariables false
set_option linter.unusedSimpArgs false
theorem infoS : (Tryd.prog.info? 66).map (fun i => (i.zero, i.size, i.bytes)) = some (some (.agg #[.int .i64 0, .int .i64 0]), 2, 16) := by kernel_rfl
/-- a slice of links, its owner's alone -/
def OwnS (B : Nat) (w : World) (v : Value) (ds : List (Int × Int)) : Prop := w.ownsRow B 66 2 v ds.length (lks ds)
theorem OwnS.buts {B : Nat} {w w' : World} {v : Value} {ds : List (Int × Int)} {l : List Nat} (h : OwnS B w v ds) (hb : Buts l w w') (hl : ∀ g, v.ownBlock = some g → g ∉ l) : OwnS B w' v ds := owns_buts h hb hl
theorem OwnS.below {B : Nat} {w w' : World} {v : Value} {ds : List (Int × Int)} (h : OwnS B w v ds) (hb : Below w.heap.size w w') : OwnS B w' v ds := h.buts (l := []) (Buts.of hb) (fun _ _ => by simp)
theorem OwnS.lt' {B : Nat} {w : World} {v : Value} {ds : List (Int × Int)} (h : OwnS B w v ds) {g : Nat} (hg : v.ownBlock = some g) : B ≤ g ∧ g < w.heap.size := World.ownsRow.lt h g hg
theorem OwnS.kind {B : Nat} {w : World} {v : Value} {ds : List (Int × Int)} (h : OwnS B w v ds) {g : Nat} (hg : v.ownBlock = some g) : ∃ cur, w.heap[g]? = some (.cells cur 66 (0, 0)) := by
  rcases h.2 with ⟨rfl, _⟩ | ⟨g', cap, cur, rfl, _, hh, _⟩
  · simp [Value.ownBlock] at hg
  · obtain rfl : g' = g := by simpa [Value.ownBlock] using hg
    exact ⟨cur, hh⟩
theorem OwnS.form {B : Nat} {w : World} {v : Value} {ds : List (Int × Int)} (h : OwnS B w v ds) : ∃ sp cap, v = .slice sp ds.length cap ∧ ds.length ≤ cap ∧ cap ≤ maxLen ∧ (sp = none → ds.length = 0 ∧ cap = 0) := by
  rcases h.2 with ⟨rfl, h0⟩ | ⟨g, cap, cur, rfl, _, _, hc, hm, _⟩
  · exact ⟨none, 0, by rw [h0], by omega, by simp [maxLen], fun _ => ⟨h0, rfl⟩⟩
  · exact ⟨_, cap, rfl, hc, hm, fun h => by cases h⟩
theorem OwnS.spot {B : Nat} {w : World} {v : Value} {ds : List (Int × Int)} (h : OwnS B w v ds) (hn : 0 < ds.length) : ∃ g cap, v = .slice (some ⟨g, 0, none⟩) ds.length cap ∧ ds.length ≤ cap ∧ cap ≤ maxLen := owns_spot h hn
theorem OwnS.cells {B : Nat} {w : World} {g n cap : Nat} {ds : List (Int × Int)} (h : OwnS B w (.slice (some ⟨g, 0, none⟩) n cap) ds) (hn : n = ds.length) (i : Nat) (hi : i < ds.length) :
    w.cell? ⟨g, i * 2, none⟩ = some (.int .i64 (ds.getD i (0, 0)).1) ∧ w.cell? ⟨g, i * 2 + 1, none⟩ = some (.int .i64 (ds.getD i (0, 0)).2) := by
  subst hn
  have h' : w.ownsRow B 66 2 (.slice (some ⟨g, 0, none⟩) ds.length cap) ds.length (lks ds) := h
  rw [h'.cellAt (i * 2) (by omega), h'.cellAt (i * 2 + 1) (by omega)]
  exact lks_at ds i hi
theorem OwnS.free {B : Nat} {w : World} {g n cap : Nat} {ds : List (Int × Int)} (h : OwnS B w (.slice (some ⟨g, 0, none⟩) n cap) ds) (i : Nat) : w.frozen? ⟨g, i, none⟩ = false := by
  obtain ⟨cur, hh⟩ := h.kind (g := g) rfl
  simp [World.frozen?, hh]
theorem sdrop_cells {w : World} {B g n cap : Nat} {ds : List (Int × Int)} (h : OwnS B w (.slice (some ⟨g, 0, none⟩) n cap) ds) (hn : n = ds.length) (k : Nat) : ∀ j u, (lks (ds.drop k))[j]? = some u → w.cell? ((⟨g, k * 2, none⟩ : Addr).add j) = some u := by
  subst hn
  intro j u hj
  rw [lks_drop, List.getElem?_drop] at hj
  have hlt : k * 2 + j < ds.length * 2 := by
    rcases Nat.lt_or_ge (k * 2 + j) (ds.length * 2) with c | c
    · exact c
    · rw [List.getElem?_eq_none (by rw [lks_len]; exact c)] at hj; cases hj
  have h' : w.ownsRow B 66 2 (.slice (some ⟨g, 0, none⟩) ds.length cap) ds.length (lks ds) := h
  rw [addr_add, h'.cellAt _ hlt]
  exact hj
/-- rows of one's own behind a row of one's own, as one step of a region that draws its order -/
theorem step_srow {ops : Array Oper} {o : Oper} {a : Act} {W : World} {K : Act → World → Prop} {Q : Exit → Act → World → Prop} {E : Prop} (hgd : o.guard = none) (s y : Operand)
    (ho : o.op = .call { callee := .builtin .append, args := #[s, y], argTypes := #[57, 57] }) (B : Nat) (v : Value) (ds es : List (Int × Int)) (hse : a.eval s = v) (hown : OwnS B W v ds)
    (ad : Addr) (m c : Nat) (hy : a.eval y = .slice (some ad) m c) (hm : es.length = m) (hl : ds.length + m ≤ 2000) (hx : ∀ j u, (lks es)[j]? = some u → W.cell? (ad.add j) = some u) (hB : B ≤ W.heap.size)
    (h : ∀ sp n cap w', OwnS B w' (.slice sp n cap) (ds ++ es) → Below B W w' → (v.ownBlock = none → Below W.heap.size W w') → K (a.put o.dst (.slice sp n cap)) w') :
    if Region.wanted o (yielded ops a.tmps) = true then Oper.wp Tryd.prog o a W K Q else E := by
  obtain ⟨i, hi, hz, hs, hby⟩ := info_parts' infoS
  subst hm
  refine step_append_own hgd s y 57 ho B 66 i _ 2 16 Tryd.underlying57 hi hz hs hby rfl (by decide) v ds.length (lks ds) hse hown ad es.length c (lks es) hy (lks_len es) hx (lks_one _) (by simp only [maxLen]; omega) (by omega) hB ?_
  intro v' w' h2 h3 _
  have h2' : OwnS B w' v' (ds ++ es) := by unfold OwnS; rw [List.length_append, lks_app]; exact h2
  obtain ⟨sp, cap, rfl, _⟩ := h2'.form
  exact h sp _ cap w' h2' ((Below.refl B W).grown h3 hB fun j ej => (hown.lt' ej).1) fun hn => (Below.refl _ W).grown h3 (Nat.le_refl _) fun j ej => by rw [hn] at ej; cases ej
/-- the document's own queue at block q -/
structure Ref (B : Nat) (w : World) (q : Nat) (v : Value) (ys : List (Int × Int)) : Prop where
  head : w.heap[q]? = some (.cells #[v] 59 (0, 0))
  own : OwnS B w v ys
  low : B ≤ q
  len : ys.length ≤ 1000
def KR (B : Nat) (w : World) (q : Nat) (ys : List (Int × Int)) : Prop := ∃ v, Ref B w q v ys
theorem Ref.keep {B : Nat} {w w' : World} {q : Nat} {v : Value} {ys : List (Int × Int)} (h : Ref B w q v ys) (hq : w'.heap[q]? = w.heap[q]?) (hg : ∀ g, v.ownBlock = some g → w'.heap[g]? = w.heap[g]?) : Ref B w' q v ys :=
  ⟨hq.trans h.head, owns_of h.own hg, h.low, h.len⟩
theorem Ref.below {B : Nat} {w w' : World} {q : Nat} {v : Value} {ys : List (Int × Int)} (h : Ref B w q v ys) (hb : Below w.heap.size w w') : Ref B w' q v ys :=
  h.keep (hb.block q (at_lt h.head)) fun g hg => hb.block g (h.own.lt' hg).2
theorem KR.below {B : Nat} {w w' : World} {q : Nat} {ys : List (Int × Int)} (h : KR B w q ys) (hb : Below w.heap.size w w') : KR B w' q ys := by
  obtain ⟨v, h⟩ := h
  exact ⟨v, h.below hb⟩
theorem Ref.ne {B : Nat} {w : World} {q : Nat} {v : Value} {ys : List (Int × Int)} (h : Ref B w q v ys) {g : Nat} (hg : v.ownBlock = some g) : q ≠ g := by
  rintro rfl
  obtain ⟨cur, hc⟩ := h.own.kind hg
  rw [h.head] at hc
  simp at hc
theorem Ref.lnk {B : Nat} {w : World} {q : Nat} {v : Value} {ys : List (Int × Int)} (h : Ref B w q v ys) : w.cell? ⟨q, 0, none⟩ = some v := by rw [cell_of h.head]; rfl
theorem Ref.fp {B : Nat} {w : World} {q : Nat} {v : Value} {ys : List (Int × Int)} (h : Ref B w q v ys) (i : Nat) : w.frozen? ⟨q, i, none⟩ = false := by simp [World.frozen?, h.head]
/-- another list is laid into its head -/
theorem Ref.lay {B : Nat} {w w2 : World} {q : Nat} {v v' : Value} {ys es : List (Int × Int)} (h : Ref B w q v ys) (hB : B ≤ w.heap.size) (ho : OwnS w.heap.size w2 v' es) (hb : Below w.heap.size w w2) (hl : es.length ≤ 1000) :
    w2.cell? ⟨q, 0, none⟩ = some v ∧ w2.frozen? ⟨q, 0, none⟩ = false ∧ KR B (w2.setCell ⟨q, 0, none⟩ v') q es ∧ Buts [q] w (w2.setCell ⟨q, 0, none⟩ v') := by
  have h2 := h.below hb
  have hql := at_lt h.head
  refine ⟨h2.lnk, h2.fp 0, ⟨v', by rw [set_block h2.head]; rfl, (owns_base (owns_of ho fun g hg => Below.heap_setCell _ _ _ _ (fun e => ?_)) hB : World.ownsRow _ _ _ _ _ _ _), h.low, hl⟩, (Buts.of hb).trans (Buts.cell _ _ _ _)⟩
  have h3 := (ho.lt' hg).1
  have h4 : g = q := e
  omega
/-- what is read of it -/
theorem Ref.seq {B : Nat} {w : World} {q : Nat} {v : Value} {ys : List (Int × Int)} (h : Ref B w q v ys) :
    ∃ sp g cap, v = .slice sp ys.length cap ∧ (0 < ys.length → sp = some ⟨g, 0, none⟩) ∧ g < w.heap.size ∧ ys.length ≤ cap ∧ cap ≤ maxLen ∧
      ∀ k, k < ys.length → w.cell? ⟨g, k * 2, none⟩ = some (.int .i64 (ys.getD k (0, 0)).1) ∧ w.cell? ⟨g, k * 2 + 1, none⟩ = some (.int .i64 (ys.getD k (0, 0)).2) := by
  by_cases h0 : 0 < ys.length
  · obtain ⟨g, cap, hv, hc, hm⟩ := h.own.spot h0
    have hown := h.own
    rw [hv] at hown
    exact ⟨_, g, cap, hv, fun _ => rfl, (hown.lt' (g := g) rfl).2, hc, hm, fun k hk => hown.cells rfl k hk⟩
  · obtain ⟨sp, cap, hv, hc, hm, _⟩ := h.own.form
    exact ⟨sp, q, cap, hv, fun h => absurd h h0, at_lt h.head, hc, hm, fun k hk => by omega⟩
theorem knew_any (w : World) (B : Nat) (hB : B ≤ w.heap.size) :
    Calls Tryd.prog 6 #[] w fun e w' => e = .returned (.pointer (some ⟨w.heap.size, 0, none⟩)) ∧ KR B w' w.heap.size [] ∧ Below w.heap.size w w' := by
  have HE : Hid (KR B (w.alloc (.cells #[.slice none 0 0] 59)) w.heap.size [] ∧ Below w.heap.size w (w.alloc (.cells #[.slice none 0 0] 59))) := ⟨⟨_, alloc_at w _, World.ownsRow_nil _ _ _ _, hB, by simp⟩, alloc_below w _⟩
  go_enter Tryd.func6, Tryd.ntmps6
  go_wp2
  go_ret
  exact ⟨rfl, HE.out⟩
/-- where somebody is -/
def kv (ys : List (Int × Int)) (who : Int) : Int := if has ys who = true then (wi ys who : Int) else -1
set_option maxHeartbeats 1000000 in
theorem kat_any {B : Nat} {w : World} {q : Nat} {v : Value} {ys : List (Int × Int)} (h : Ref B w q v ys) (who : Int) :
    Calls Tryd.prog 22 #[.pointer (some ⟨q, 0, none⟩), .int .i64 who] w fun e w' => e = .returned (.int .i64 (kv ys who)) ∧ w = w' := by
  obtain ⟨sp, g, cap, hv, hsp, hgl, hc1, hc2, hcs⟩ := h.seq
  have hlk := h.lnk
  have hlen := h.len
  rw [hv] at hlk
  have HLE : Hid (wi ys who ≤ ys.length) := wi_le ys who
  have HNO : Hid (∀ i, i < wi ys who → (ys.getD i (0, 0)).1 ≠ who) := fun i hi => wi_no hi
  have HYES : Hid (wi ys who < ys.length → (ys.getD (wi ys who) (0, 0)).1 = who) := fun h => wi_at h
  have HV1 : Hid (wi ys who < ys.length → kv ys who = (wi ys who : Int)) := fun h => by unfold kv; rw [if_pos (by simpa [has] using h)]
  have HV2 : Hid (¬ wi ys who < ys.length → kv ys who = -1) := fun h => by unfold kv; rw [if_neg (by simpa [has] using h)]
  have HCS : Hid (∀ k, k < ys.length → w.cell? ⟨g, k * 2, none⟩ = some (.int .i64 (ys.getD k (0, 0)).1) ∧ w.cell? ⟨g, k * 2 + 1, none⟩ = some (.int .i64 (ys.getD k (0, 0)).2)) := hcs
  clear h hv hc1 hc2 hcs
  generalize kv ys who = r at *
  generalize wi ys who = K at *
  generalize ys.length = n at *
  go_enter Tryd.func22, Tryd.ntmps22
  go_wp2
  go_loopg [5] K (fun gk s5 wx => ∃ i : Nat, i + gk = K ∧ s5 = .int .i64 i ∧ w = wx)
  case atStart => exact ⟨0, by omega, rfl, rfl⟩
  case round =>
    obtain ⟨i, hig, rfl, rfl⟩ := hrel
    cases gk with
    | zero =>
      obtain rfl : i = K := by omega
      by_cases hl : i < n
      · have hlt : (i : Int) < n := by omega
        obtain rfl := hsp (by omega)
        obtain ⟨c0, _⟩ := HCS.out i hl
        rw [HYES.out hl] at c0
        have hr := HV1.out hl
        subst hr
        clear hsp
        go_wp2
        go_ret
        exact ⟨rfl, rfl⟩
      · have hlt : ¬ (i : Int) < n := by omega
        have hr := HV2.out hl
        subst hr
        clear hsp
        go_wp2
        go_ret
        exact ⟨rfl, rfl⟩
    | succ g' =>
      have hl := HLE.out
      have hin : i < n := by omega
      have hlt : (i : Int) < n := by omega
      obtain rfl := hsp (by omega)
      obtain ⟨c0, _⟩ := HCS.out i hin
      have hne := HNO.out i (by omega)
      generalize (ys.getD i (0, 0)).1 = z at *
      clear hsp hl
      go_wp2
      go_roundg g'
      case measure => omega
      case rel => exact ⟨i + 1, by omega, by go_num, rfl⟩
end Go.Proofs.YtmdhlgdikchhlaaDoor
