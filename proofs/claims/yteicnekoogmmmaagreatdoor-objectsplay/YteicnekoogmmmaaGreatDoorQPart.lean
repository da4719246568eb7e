/- A slice that its owner alone writes, a part of a row: one more behind it, in its place or in a new row. -/
import Derived.Test.YteicnekoogmmmaaGreatDoorQSame
import Derived.ArgAppend
namespace Go.Proofs.YteicnekoogmmmaaGreatDoor
open Go Go.RowKit
set_option maxRecDepth 100000
set_option linter.unusedVariables false
theorem info_parts {P : Program} {t : TypeId} {v : Value} {s b : Nat} (h : (P.info? t).map (fun i => (i.zero, i.size, i.bytes)) = some (some v, s, b)) : ∃ i, P.info? t = some i ∧ i.zero = some v ∧ i.size = s ∧ i.bytes = b := by
  obtain ⟨i, hi, he⟩ := Option.map_eq_some_iff.1 h
  exact ⟨i, hi, by simpa using congrArg Prod.fst he, by simpa using congrArg (fun x => x.2.1) he, by simpa using congrArg (fun x => x.2.2) he⟩
/-- what an append out of such a slice wants -/
theorem src_news {w : World} {b off : Nat} {zs : List Int} (h : Src w (some ⟨b, off, none⟩) zs) : ∀ j u, (zs.map (Value.int .u32))[j]? = some u → w.cell? ((⟨b, off, none⟩ : Addr).add j) = some u := by
  intro j u hj
  have hjl : j < zs.length := by
    rcases Nat.lt_or_ge j zs.length with k | k
    · exact k
    · rw [List.getElem?_eq_none (by simpa using k)] at hj; cases hj
  obtain ⟨b', off', e, hc⟩ := h (by omega)
  simp only [Option.some.injEq, Addr.mk.injEq, and_true] at e
  obtain ⟨rfl, rfl⟩ := e
  have hadd : (⟨b, off, none⟩ : Addr).add j = ⟨b, off + j, none⟩ := by unfold Addr.add; split <;> simp_all
  rw [hadd, hc j hjl]
  simpa [hjl] using hj
theorem ints_one (zs : List Int) : ∀ u ∈ zs.map (Value.int .u32), u.oneCell' = true := by
  intro u hu
  obtain ⟨z, _, rfl⟩ := List.mem_map.1 hu
  rfl
/-- a slice of numbers that its owner alone writes: nothing, or a part of a row -/
def Part (B : Nat) (w : World) (v : Value) (xs : List Int) : Prop :=
  (v = .slice none 0 0 ∧ xs = []) ∨ ∃ b off cap cur, v = .slice (some ⟨b, off, none⟩) xs.length cap ∧ B ≤ b ∧ w.heap[b]? = some (.cells cur 23 (0, 0)) ∧ xs.length ≤ cap ∧ off + cap ≤ cur.size ∧ ∀ i, i < xs.length → cur[off + i]? = some (.int .u32 (xs.getD i 0))
theorem Part.own {B : Nat} {w : World} {v : Value} {xs : List Int} (h : w.ownsRow B 23 1 v xs.length (xs.map (Value.int .u32))) : Part B w v xs := by
  rcases h.2 with ⟨rfl, h0⟩ | ⟨g, cap, cur, rfl, hg, hh, hc, hm, hs, ht⟩
  · exact Or.inl ⟨rfl, List.eq_nil_of_length_eq_zero h0⟩
  · refine Or.inr ⟨g, 0, cap, cur, rfl, hg, hh, hc, by omega, fun i hi => ?_⟩
    have : (xs.map (Value.int .u32))[i]? = some (.int .u32 (xs.getD i 0)) := by simp [hi]
    rw [← ht, List.getElem?_take, if_pos (by omega)] at this
    simpa using this
theorem Part.keep {B : Nat} {w w' : World} {v : Value} {xs : List Int} (h : Part B w v xs) (hb : ∀ g, v.ownBlock = some g → w'.heap[g]? = w.heap[g]?) : Part B w' v xs := by
  rcases h with h | ⟨b, off, cap, cur, rfl, hB, hh, r⟩
  · exact Or.inl h
  · exact Or.inr ⟨b, off, cap, cur, rfl, hB, by rw [hb b rfl]; exact hh, r⟩
theorem Part.lt {B : Nat} {w : World} {v : Value} {xs : List Int} (h : Part B w v xs) {g : Nat} (hg : v.ownBlock = some g) : B ≤ g ∧ g < w.heap.size ∧ ∃ cur, w.heap[g]? = some (.cells cur 23 (0, 0)) := by
  rcases h with ⟨rfl, _⟩ | ⟨b, off, cap, cur, rfl, hB, hh, r⟩
  · simp [Value.ownBlock] at hg
  · obtain rfl : b = g := by simpa [Value.ownBlock] using hg
    exact ⟨hB, at_lt hh, cur, hh⟩
theorem Part.buts {B : Nat} {w w' : World} {v : Value} {xs : List Int} {l : List Nat} (h : Part B w v xs) (hb : Buts l w w') (hl : ∀ g, v.ownBlock = some g → g ∉ l) : Part B w' v xs :=
  h.keep fun g hg => hb.block g (h.lt hg).2.1 (hl g hg)
theorem Part.below {B : Nat} {w w' : World} {v : Value} {xs : List Int} (h : Part B w v xs) (hb : Below w.heap.size w w') : Part B w' v xs :=
  h.buts (l := []) (Buts.of hb) (fun _ _ => by simp)
theorem Part.src {B : Nat} {w : World} {v : Value} {xs : List Int} (h : Part B w v xs) : ∃ sp cap, v = .slice sp xs.length cap ∧ Src w sp xs := by
  rcases h with ⟨rfl, rfl⟩ | ⟨b, off, cap, cur, rfl, hB, hh, hc, hs, hx⟩
  · exact ⟨none, 0, rfl, fun h => by simp at h⟩
  · exact ⟨_, cap, rfl, fun _ => ⟨b, off, rfl, fun i hi => by rw [cell_of hh]; exact hx i hi⟩⟩
theorem Part.tail {B : Nat} {w : World} {b off cap m : Nat} {x : Int} {xs : List Int} (h : Part B w (.slice (some ⟨b, off, none⟩) m cap) (x :: xs)) :
    Part B w (.slice (if cap = 1 then some ⟨b, off, none⟩ else some ⟨b, off + 1, none⟩) (m - 1) (cap - 1)) xs := by
  rcases h with ⟨h, _⟩ | ⟨b', off', cap', cur, e, hB, hh, hc, hs, hx⟩
  · cases h
  · simp only [Value.slice.injEq, Option.some.injEq, Addr.mk.injEq, and_true] at e
    obtain ⟨⟨rfl, rfl⟩, rfl, rfl⟩ := e
    simp only [List.length_cons] at hc hx ⊢
    by_cases h1 : cap = 1
    · subst h1
      have h0 : xs = [] := List.eq_nil_of_length_eq_zero (by omega)
      subst h0
      rw [if_pos rfl]
      exact Or.inr ⟨b, off, 0, cur, rfl, hB, hh, by simp, by omega, fun i hi => by simp at hi⟩
    · rw [if_neg h1]
      refine Or.inr ⟨b, off + 1, cap - 1, cur, rfl, hB, hh, by omega, by omega, fun i hi => ?_⟩
      have := hx (i + 1) (by omega)
      rw [show off + 1 + i = off + (i + 1) by omega, this]
      simp
/-- one more behind such a slice: in its place, or in a new row -/
theorem Part.add {B : Nat} {w : World} {v : Value} {xs : List Int} (h : Part B w v xs) (hl : xs.length ≤ 2000) (hB : B ≤ w.heap.size) {b1 : Nat} {z : Int} (h1 : w.cell? ⟨b1, 0, none⟩ = some (.int .u32 z)) :
    ∃ v' w', (Builtin.append_ #[53, 53] 53 #[v, .slice (some ⟨b1, 0, none⟩) 1 1]).run Tryz.prog w = .ok v' w' ∧ Part B w' v' (xs ++ [z]) ∧ Buts v.ownBlock.toList w w' ∧ (∀ g, v'.ownBlock = some g → v.ownBlock = some g ∨ w.heap.size ≤ g) ∧ ∃ b off cap, v' = .slice (some ⟨b, off, none⟩) (xs.length + 1) cap := by
  obtain ⟨i, hi, hz, hs, hby⟩ := info_parts infoW
  have hnews : ∀ j u, ([.int .u32 z] : List Value)[j]? = some u → w.cell? ((⟨b1, 0, none⟩ : Addr).add j) = some u := by
    intro j u hj
    rcases j with _ | j
    · simp only [List.getElem?_cons_zero] at hj
      rw [← hj]; exact h1
    · simp at hj
  have hone : ∀ u ∈ ([.int .u32 z] : List Value), u.oneCell' = true := by intro u hu; rw [List.mem_singleton] at hu; subst hu; rfl
  rcases h with ⟨rfl, rfl⟩ | ⟨b, off, cap, cur, rfl, hBb, hh, hc, hsz, hx⟩
  · obtain ⟨v', w', hr, ho, hg, _⟩ := run_append_own (P := Tryz.prog) w w.heap.size 53 53 23 i (.int .u32 0) 1 4 Tryz.underlying53 hi hz hs hby rfl (by decide) (.slice none 0 0) 0 [] (World.ownsRow_nil _ _ _ _) ⟨b1, 0, none⟩ 1 1 [.int .u32 z] rfl hnews hone (by decide) (by decide) (Nat.le_refl _)
    obtain ⟨g', c', rfl, _⟩ := owns_spot ho (by decide)
    refine ⟨_, w', hr, Part.own (xs := [z]) (owns_base ho hB), by simpa [Value.ownBlock] using Buts.grown hg, fun g hg' => Or.inr (ho.lt g hg').1, g', 0, c', rfl⟩
  · by_cases hroom : xs.length + 1 ≤ cap
    · have hr := run_append_room_cells (P := Tryz.prog) w 53 53 23 i Tryz.underlying53 hi b off xs.length cap ⟨b1, 0, none⟩ 1 1 [.int .u32 z] (by rw [hs]; rfl) hnews hone hroom (fun j hj => by
        have hj0 : j = 0 := by simpa using hj
        subst hj0
        rw [cell_of hh, hs]
        simp; omega) (fun j hj => by simp [World.frozen?, hh])
      rw [hs, Nat.mul_one] at hr
      refine ⟨_, _, hr, Or.inr ⟨b, off, cap, cur.setIfInBounds (off + xs.length) (.int .u32 z), by simp, hBb, ?_, by simpa using hroom, by simpa using hsz, fun i hi => ?_⟩, ?_, fun g hg => Or.inl hg, b, off, cap, rfl⟩
      · show (w.setCell ⟨b, off + xs.length, none⟩ (.int .u32 z)).heap[b]? = _
        have hl := at_lt hh
        have hv := (Array.getElem?_eq_some_iff.1 hh).2
        unfold World.setCell
        rw [Array.getElem?_eq_getElem (by simpa using hl), Array.getElem_modify]
        simp [hv]
      · have hi' : i ≤ xs.length := by simp at hi; omega
        rw [getD_app, Array.getElem?_setIfInBounds]
        by_cases e : i = xs.length
        · subst e
          rw [if_pos rfl, if_pos (by omega), if_neg (by omega)]
          simp
        · rw [if_neg (by omega), if_pos (by omega)]
          exact hx i (by omega)
      · have := Buts.cell w b (off + xs.length) (.int .u32 z)
        simpa [Value.ownBlock, World.setCells] using this
    · obtain ⟨v', w', hr, ho, hg⟩ := run_append_arg_grows (P := Tryz.prog) w 53 53 23 i (.int .u32 0) 1 4 Tryz.underlying53 hi hz hs hby rfl (by decide) ⟨b, off, none⟩ xs.length cap (xs.map (Value.int .u32)) (by simp) (src_news (fun _ => ⟨b, off, rfl, fun i hi => by rw [cell_of hh]; exact hx i hi⟩)) ⟨b1, 0, none⟩ 1 1 [.int .u32 z] rfl hnews (by omega) (by simp only [maxLen]; omega) (by omega)
      obtain ⟨g', c', rfl, _⟩ := owns_spot ho (by omega)
      refine ⟨_, w', hr, Part.own (by simpa using owns_base ho hB), (Buts.grown hg).mono (by simp), fun g hg' => Or.inr (ho.lt g hg').1, g', 0, c', rfl⟩
/-- the same at the call -/
theorem wpList_part {w : World} {ops : Array Oper} {rest : List Oper} {o : Oper} {a : Go.Act} {Q : Exit → Go.Act → World → Prop} (hgd : o.guard = none) (s x : Operand)
    (ho : o.op = .call { callee := .builtin .append, args := #[s, x], argTypes := #[53, 53] }) (hty : o.type = 53) {B b1 : Nat} {v : Value} {z : Int} {xs : List Int} (hse : a.eval s = v) (hx : a.eval x = .slice (some ⟨b1, 0, none⟩) 1 1)
    (hp : Part B w v xs) (hl : xs.length ≤ 2000) (hB : B ≤ w.heap.size) (h1 : w.cell? ⟨b1, 0, none⟩ = some (.int .u32 z))
    (h : ∀ b off cap w', Hid (Part B w' (.slice (some ⟨b, off, none⟩) (xs.length + 1) cap) (xs ++ [z])) → Hid (Buts v.ownBlock.toList w w') → Hid (v.ownBlock = some b ∨ w.heap.size ≤ b) → wpList Tryz.prog ops Q rest (a.put o.dst (.slice (some ⟨b, off, none⟩) (xs.length + 1) cap)) w') : wpList Tryz.prog ops Q (o :: rest) a w := by
  refine wpList_plain hgd fun K hK => ?_
  obtain ⟨v', w', hr, h2, h3, h4, b, off, cap, rfl⟩ := hp.add hl hB h1
  unfold Oper.wp execOp
  simp only [ho, resolve, invoke, builtin, Sem.run_bind, Sem.run_pure, Result.andThen_ok, List.map_toArray, List.map_cons, List.map_nil, hse, hx]
  rw [hty, hr]
  exact hK _ _ (h b off cap w' h2 h3 (h4 b rfl))
theorem Part.ne {B : Nat} {w : World} {v : Value} {xs ys : List Int} {p n : Nat} (h : Part B w v xs) (hq : Que w p n ys) {g : Nat} (hg : v.ownBlock = some g) : p ≠ g := by
  rintro rfl
  obtain ⟨_, _, cur, hc⟩ := h.lt hg
  obtain ⟨f, zs, _, hr, _⟩ := hq.raw
  rw [hr.head] at hc
  simp at hc
theorem Part.one {B : Nat} {w w' : World} {v : Value} {xs ys : List Int} {p n : Nat} (h : Part B w v xs) (hq : Que w p n ys) (hb : Buts [p] w w') : Part B w' v xs :=
  h.buts hb fun g hg hm => h.ne hq hg (by simpa using Eq.symm (by simpa using hm))
theorem Que.part {B : Nat} {w w' : World} {v : Value} {xs ys : List Int} {p n : Nat} (hq : Que w p n ys) (h : Part B w v xs) (hb : Buts v.ownBlock.toList w w') : Que w' p n ys :=
  hq.buts hb fun hm => h.ne hq (g := p) (by simpa using hm) rfl
theorem Part.low {B : Nat} {w w' : World} {v : Value} {xs : List Int} (h : Part B w v xs) (hB : B ≤ w.heap.size) (hb : Buts v.ownBlock.toList w w') : Below B w w' :=
  hb.below (fun x hx => (h.lt (by simpa using hx)).1) hB
end Go.Proofs.YteicnekoogmmmaaGreatDoor
