/- What came in: bools, words, what is done one after the other; they are read alone. -/
import Derived.Test.YteicnekoogmmmaaGreatDoorLives
import Derived.Test.YteicnekoogmmmaaGreatDoorQArgs
import Derived.Laws.OwnMore
import Derived.Carry
import Derived.ChangeMaps5
import Derived.Deep.Strs
namespace Go.Proofs.YteicnekoogmmmaaGreatDoor
open Go Go.RowKit
open Go.ChangeShapes Go.WideShapes Go.WideElems
set_option maxRecDepth 100000
set_option linter.unusedVariables false
/-- what is done: whether somebody leaves, who, and what is asked -/
structure Ac where
  lv : Bool
  who : Int
  wh : Int
  ah : Int
  av : Int
  am : Int
  aw : Int
  deriving Inhabited
structure Ac.Ok (x : Ac) : Prop where
  who : 0 ≤ x.who ∧ x.who ≤ 4294967295
  wh : 0 ≤ x.wh ∧ x.wh ≤ 255
  ah : 0 ≤ x.ah ∧ x.ah ≤ 4294967295
  av : 0 ≤ x.av ∧ x.av ≤ 4294967295
  am : 0 ≤ x.am ∧ x.am ≤ 4294967295
  aw : -9223372036854775808 ≤ x.aw ∧ x.aw ≤ 9223372036854775807
/-- the cells of one act, from a place on -/
structure Ac.At (x : Ac) (w : World) (b off : Nat) : Prop where
  lv : w.cell? ⟨b, off, none⟩ = some (.bool x.lv)
  who : w.cell? ⟨b, off + 1, none⟩ = some (.int .u32 x.who)
  wh : w.cell? ⟨b, off + 2, none⟩ = some (.int .u8 x.wh)
  ah : w.cell? ⟨b, off + 3, none⟩ = some (.int .u32 x.ah)
  av : w.cell? ⟨b, off + 4, none⟩ = some (.int .u32 x.av)
  am : w.cell? ⟨b, off + 5, none⟩ = some (.int .u32 x.am)
  aw : w.cell? ⟨b, off + 6, none⟩ = some (.int .i64 x.aw)
theorem Ac.At.below {x : Ac} {B : Nat} {w w' : World} {b off : Nat} (h : x.At w b off) (hB : b < B) (hb : Below B w w') : x.At w' b off :=
  ⟨by rw [hb.cell (p := ⟨b, off, none⟩) hB]; exact h.lv, by rw [hb.cell (p := ⟨b, off + 1, none⟩) hB]; exact h.who, by rw [hb.cell (p := ⟨b, off + 2, none⟩) hB]; exact h.wh, by rw [hb.cell (p := ⟨b, off + 3, none⟩) hB]; exact h.ah, by rw [hb.cell (p := ⟨b, off + 4, none⟩) hB]; exact h.av, by rw [hb.cell (p := ⟨b, off + 5, none⟩) hB]; exact h.am, by rw [hb.cell (p := ⟨b, off + 6, none⟩) hB]; exact h.aw⟩
structure Acts (B : Nat) (w : World) (sp : Option Addr) (acts : List Ac) : Prop where
  spot : 0 < acts.length → ∃ b off, sp = some ⟨b, off, none⟩ ∧ b < B ∧ ∀ (i : Nat) (x : Ac), acts[i]? = some x → x.At w b (off + i * 7)
  wf : ∀ (i : Nat) (x : Ac), acts[i]? = some x → x.Ok
theorem Acts.below {B : Nat} {w w' : World} {sp : Option Addr} {acts : List Ac} (h : Acts B w sp acts) (hb : Below B w w') : Acts B w' sp acts :=
  ⟨fun hz => by
    obtain ⟨b, off, e, hB, hc⟩ := h.spot hz
    exact ⟨b, off, e, hB, fun i x hi => (hc i x hi).below hB hb⟩, h.wf⟩
theorem open_acts {H : Type} {enc : TypeId × Value → H} {W : World} {base : Nat} {v : Value} {d : DataW H} {p : List MemPlace}
    (hval : Value.okWide Tryz.prog W .any base 26 v) (h : DataW.Trod enc Tryz.prog W 0 (fun _ => true) true 26 v d p) :
    ∃ sp acts cap, v = .slice sp acts.length cap ∧ Acts W.heap.size W sp acts ∧ acts.length ≤ maxLen := by
  obtain ⟨a0, len, cap, rfl⟩ := okWide_slice Tryz.underlying26 hval
  obtain ⟨fuel, hf⟩ := h
  rcases Deep.open_slice Tryz.underlying26 hf with ⟨hcs, hx⟩ | ⟨a, len', cap', m, n, D, Pl, hcs, _, hl, hm, hmm, hx, hel⟩
  · simp [Value.cells] at hcs
    obtain ⟨rfl, rfl, rfl⟩ := hcs
    exact ⟨none, [], 0, rfl, ⟨fun h => by simp at h, fun i x h => by simp at h⟩, by simp⟩
  · simp [Value.cells] at hcs
    obtain ⟨rfl, rfl, rfl⟩ := hcs
    simp at hmm
    subst hmm
    have each : ∀ i, i < len → ∃ x : Ac, (W.cell? (a.add (i * 7)) = some (.bool x.lv) ∧ W.cell? (a.add (i * 7 + 1)) = some (.int .u32 x.who) ∧ W.cell? (a.add (i * 7 + 2)) = some (.int .u8 x.wh) ∧ W.cell? (a.add (i * 7 + 3)) = some (.int .u32 x.ah) ∧ W.cell? (a.add (i * 7 + 4)) = some (.int .u32 x.av) ∧ W.cell? (a.add (i * 7 + 5)) = some (.int .u32 x.am) ∧ W.cell? (a.add (i * 7 + 6)) = some (.int .i64 x.aw)) ∧ x.Ok := by
      intro i hi
      obtain ⟨cs', h1, h2⟩ := hel i (by omega)
      rw [show Tryz.prog.cellsOf 52 = 7 by kernel_rfl] at h1
      obtain ⟨_, hlen, hcell⟩ := World.cells?_some h1
      obtain ⟨y0, y1, y2, k, _, _, g0, g1, g2⟩ := Deep.trod_struct3 Tryz.underlying52 h2
      match cs', hlen with
      | [v0, v1, v2, v3, v4, v5, v6], _ =>
        have e0 := hcell 0 (by omega)
        have e1 := hcell 1 (by omega)
        have e2 := hcell 2 (by omega)
        have e3 := hcell 3 (by omega)
        have e4 := hcell 4 (by omega)
        have e5 := hcell 5 (by omega)
        have e6 := hcell 6 (by omega)
        rw [Deep.add_add] at e0 e1 e2 e3 e4 e5 e6
        obtain ⟨n0, q0, _⟩ := DataW.trod_bool Tryz.underlying4 (show DataW.trod enc Tryz.prog W 0 (fun _ => true) true k 4 [v0] = some y0 from g0)
        obtain ⟨n1, q1, _, w1⟩ := DataW.trod_int Tryz.underlying23 (show DataW.trod enc Tryz.prog W 0 (fun _ => true) true k 23 [v1] = some y1 from g1)
        have g2' : DataW.trod enc Tryz.prog W 0 (fun _ => true) true k 39 [v2, v3, v4, v5, v6] = some y2 := g2
        obtain ⟨xs, k', _, _, _, hxl, hels⟩ := DataW.trod_struct Tryz.underlying39 g2'
        match xs, hxl with
        | [x0, x1, x2, x3, x4], _ =>
          have kW : Tryz.prog.cellsOf 23 = 1 := by kernel_rfl
          have kH : Tryz.prog.cellsOf 37 = 1 := by kernel_rfl
          have kL : Tryz.prog.cellsOf 2 = 1 := by kernel_rfl
          have f0 : DataW.trod enc Tryz.prog W 0 (fun _ => true) true k' 37 (([v2, v3, v4, v5, v6].drop 0).take (Tryz.prog.cellsOf 37)) = some x0 := hels 0 _ rfl
          have f1 : DataW.trod enc Tryz.prog W 0 (fun _ => true) true k' 23 (([v2, v3, v4, v5, v6].drop 1).take (Tryz.prog.cellsOf 23)) = some x1 := hels 1 _ rfl
          have f2 : DataW.trod enc Tryz.prog W 0 (fun _ => true) true k' 23 (([v2, v3, v4, v5, v6].drop 2).take (Tryz.prog.cellsOf 23)) = some x2 := hels 2 _ rfl
          have f3 : DataW.trod enc Tryz.prog W 0 (fun _ => true) true k' 23 (([v2, v3, v4, v5, v6].drop 3).take (Tryz.prog.cellsOf 23)) = some x3 := hels 3 _ rfl
          have f4 : DataW.trod enc Tryz.prog W 0 (fun _ => true) true k' 2 (([v2, v3, v4, v5, v6].drop 4).take (Tryz.prog.cellsOf 2)) = some x4 := hels 4 _ rfl
          rw [kH] at f0
          rw [kW] at f1 f2 f3
          rw [kL] at f4
          obtain ⟨n2, q2, _, w2⟩ := DataW.trod_int Tryz.underlying37 (show DataW.trod enc Tryz.prog W 0 (fun _ => true) true k' 37 [v2] = some x0 from f0)
          obtain ⟨n3, q3, _, w3⟩ := DataW.trod_int Tryz.underlying23 (show DataW.trod enc Tryz.prog W 0 (fun _ => true) true k' 23 [v3] = some x1 from f1)
          obtain ⟨n4, q4, _, w4⟩ := DataW.trod_int Tryz.underlying23 (show DataW.trod enc Tryz.prog W 0 (fun _ => true) true k' 23 [v4] = some x2 from f2)
          obtain ⟨n5, q5, _, w5⟩ := DataW.trod_int Tryz.underlying23 (show DataW.trod enc Tryz.prog W 0 (fun _ => true) true k' 23 [v5] = some x3 from f3)
          obtain ⟨n6, q6, _, w6⟩ := DataW.trod_int Tryz.underlying2 (show DataW.trod enc Tryz.prog W 0 (fun _ => true) true k' 2 [v6] = some x4 from f4)
          simp only [List.cons.injEq, and_true] at q0 q1 q2 q3 q4 q5 q6
          subst q0 q1 q2 q3 q4 q5 q6
          exact ⟨⟨n0, n1, n2, n3, n4, n5, n6⟩, ⟨by simpa using e0, by simpa using e1, by simpa using e2, by simpa using e3, by simpa using e4, by simpa using e5, by simpa using e6⟩, ⟨bounds_u32 w1, bounds_u8 w2, bounds_u32 w3, bounds_u32 w4, bounds_u32 w5, bounds_i64 w6⟩⟩
    obtain ⟨q, hq⟩ := Deep.choose_lt each
    have hat : ∀ (i : Nat) (x : Ac), ((List.range len).map q)[i]? = some x → i < len ∧ x = q i := by
      intro i x hi
      have hil : i < len := by have := (List.getElem?_eq_some_iff.1 hi).1; simpa using this
      simp [hil] at hi
      exact ⟨hil, hi.symm⟩
    refine ⟨some a, (List.range len).map q, _, by simp; rfl, ⟨fun hp => ?_, fun i x hi => ?_⟩, by simp; omega⟩
    · have hp' : 0 < len := by simpa using hp
      have h0 := (hq 0 hp').1.1
      obtain ⟨b, off, rfl⟩ : ∃ b off, a = ⟨b, off, none⟩ := by
        obtain ⟨b, off, spot⟩ := a
        have hspot : spot = none := by simpa [Addr.add] using World.cell?_spot h0
        exact ⟨b, off, by rw [hspot]⟩
      refine ⟨b, off, rfl, ?_, fun i x hi => ?_⟩
      · rw [WideShapes.add_plain] at h0
        exact cell_lt h0
      · obtain ⟨hil, rfl⟩ := hat i x hi
        obtain ⟨h0, h1, h2, h3, h4, h5, h6⟩ := (hq i hil).1
        simp only [WideShapes.add_plain, ← Nat.add_assoc] at h0 h1 h2 h3 h4 h5 h6
        exact ⟨h0, h1, h2, h3, h4, h5, h6⟩
    · obtain ⟨hil, rfl⟩ := hat i x hi
      exact (hq i hil).2
/-- bools that are read -/
structure BoSrc (B : Nat) (w : World) (sp : Option Addr) (zs : List Bool) : Prop where
  spot : 0 < zs.length → ∃ b off, sp = some ⟨b, off, none⟩ ∧ b < B ∧ ∀ i, i < zs.length → w.cell? ⟨b, off + i, none⟩ = some (.bool (zs.getD i false))
theorem BoSrc.below {B : Nat} {w w' : World} {sp : Option Addr} {zs : List Bool} (h : BoSrc B w sp zs) (hb : Below B w w') : BoSrc B w' sp zs :=
  ⟨fun hz => by
    obtain ⟨b, off, e, hB, hc⟩ := h.spot hz
    exact ⟨b, off, e, hB, fun i hi => by rw [hb.cell (p := ⟨b, off + i, none⟩) hB]; exact hc i hi⟩⟩
theorem field_count (k a b c o : Int) (r os : Value) (w : World) : (Instr.field 55 (.agg #[.int .u32 0, .int .u8 k, .int .u32 a, .int .u32 b, .int .u32 c, .int .u32 o, r, os, .int .i64 0, .slice none 0 0]) 2).run Tryz.prog w = .ok (.int .u32 c) w := by kernel_rfl
theorem field_row (k a b c o : Int) (r os : Value) (w : World) : (Instr.field 55 (.agg #[.int .u32 0, .int .u8 k, .int .u32 a, .int .u32 b, .int .u32 c, .int .u32 o, r, os, .int .i64 0, .slice none 0 0]) 4).run Tryz.prog w = .ok (r) w := by kernel_rfl
theorem field_owners (k a b c o : Int) (r os : Value) (w : World) : (Instr.field 55 (.agg #[.int .u32 0, .int .u8 k, .int .u32 a, .int .u32 b, .int .u32 c, .int .u32 o, r, os, .int .i64 0, .slice none 0 0]) 5).run Tryz.prog w = .ok (os) w := by kernel_rfl
end Go.Proofs.YteicnekoogmmmaaGreatDoor
