/- From the listed variables to what the walks ask of memory; an instruction, and four bytes, as they come in. -/
import Derived.Test.YtomccgodfimaiaaGreatDoorMay
import Derived.Lib.LaidTab
import Derived.Stop.LaidErr
import Derived.LaidMore
import Derived.ProofKit
import Derived.OpenShut
import Derived.Laws.IdiomArrays
import Derived.Stop.Joined
namespace Go.Proofs.YtomccgodfimaiaaGreatDoor
set_option linter.all false
open Go Go.ChangeShapes Go.WideShapes Go.ChangeAt Go.RowKit
set_option maxRecDepth 100000
theorem own : ownKnob Tryz.prog.godebug = none := by kernel_rfl
theorem laidOut : laidOutB Tryz.prog = true := by kernel_rfl
theorem pow_of {W : World} {rest : List (String × DataW Unit)} (h : laidMet Tryz.prog (("internal/strconv.uint64pow10", Rows.laid_internal_strconv_uint64pow10) :: rest) W) : Pow W :=
  Lib.tabIs_of_head (t := 230) (e := 197) (n := 20) powAt (by kernel_rfl) Tryz.underlying230 Tryz.underlying197 (by kernel_rfl) (by kernel_rfl) h
theorem formsAt : Tryz.prog.globalNamed "timekeeper/instrs.forms" = some 0 := by kernel_rfl
theorem formsTy : (Tryz.prog.globals[0]?).map (·.type) = some 180 := by kernel_rfl
theorem c59 : Tryz.prog.cellsOf 176 = 1 := by kernel_rfl
theorem c60 : Tryz.prog.cellsOf 177 = 3 := by kernel_rfl
theorem c62 : Tryz.prog.cellsOf 179 = 4 := by kernel_rfl
theorem c9 : Tryz.prog.cellsOf 9 = 1 := by kernel_rfl
def formD (o : Nat) : DataW Unit := .agg [.lit (.string (fWord o).data.toList), .agg [.lit (.int .u8 (fK o).1), .lit (.int .u8 (fK o).2.1), .lit (.int .u8 (fK o).2.2)]]
theorem forms_list : (Rows.laid_timekeeper_instrs_forms : DataW Unit) = .agg ((List.range 23).map formD) := by kernel_rfl
theorem kinds_of {W : World} {fuel : Nat} {cs : List Value} {k1 k2 k3 : Nat} {p : List MemPlace} {base : Nat} {sp : Nat → Bool} {held : Bool} {enc : TypeId × Value → Unit}
    (h : DataW.trod enc Tryz.prog W base sp held fuel 177 cs = some (.agg [.lit (.int .u8 k1), .lit (.int .u8 k2), .lit (.int .u8 k3)], p)) : cs = [.int .u8 k1, .int .u8 k2, .int .u8 k3] := by
  obtain ⟨xs, m, rfl, hx, hl, hn, hel⟩ := DataW.trod_array Tryz.underlying177 h
  rw [c60] at hl
  rw [c59] at hel
  match cs, hl with
  | [a, b, c], _ =>
    match xs, hn with
    | [x0, x1, x2], _ =>
      have e0 := hel 0 (by decide)
      have e1 := hel 1 (by decide)
      have e2 := hel 2 (by decide)
      obtain ⟨n0, q0, r0, _⟩ := DataW.trod_int Tryz.underlying176 (show DataW.trod enc Tryz.prog W base sp held m 176 [a] = some x0 from e0)
      obtain ⟨n1, q1, r1, _⟩ := DataW.trod_int Tryz.underlying176 (show DataW.trod enc Tryz.prog W base sp held m 176 [b] = some x1 from e1)
      obtain ⟨n2, q2, r2, _⟩ := DataW.trod_int Tryz.underlying176 (show DataW.trod enc Tryz.prog W base sp held m 176 [c] = some x2 from e2)
      simp only [r0, r1, r2, List.map_cons, List.map_nil, Prod.mk.injEq, DataW.agg.injEq, List.cons.injEq, DataW.lit.injEq, Lit.int.injEq, true_and, and_true] at hx
      simp only [List.cons.injEq, and_true] at q0 q1 q2
      obtain ⟨⟨h0, h1, h2⟩, _⟩ := hx
      rw [q0, q1, q2, h0, h1, h2]
theorem forms_of {W : World} {rest : List (String × DataW Unit)} (h : laidMet Tryz.prog (("timekeeper/instrs.forms", Rows.laid_timekeeper_instrs_forms) :: rest) W) :
    ∀ o, o < 23 → Form W 0 (o * 4) (fWord o) (fK o).1 (fK o).2.1 (fK o).2.2 := by
  obtain ⟨ps, ⟨g', t', cs, fuel, p, q, hg', ht', hvar, hd, _, _⟩, _⟩ := h
  obtain rfl := Option.some.inj (formsAt.symm.trans hg')
  obtain rfl := Option.some.inj (formsTy.symm.trans ht')
  rw [forms_list] at hd
  obtain ⟨xs, m, rfl, hx, hl, hn, hel⟩ := DataW.trod_array Tryz.underlying180 hd
  rw [c62] at hel
  intro o ho
  have hxo := hel o ho
  obtain ⟨xo, hxo'⟩ : ∃ xo, xs[o]? = some xo := ⟨_, List.getElem?_eq_getElem (by omega)⟩
  rw [hxo'] at hxo
  have hfd : xo.1 = formD o := by
    have e := congrArg Prod.fst hx
    simp only [DataW.agg.injEq] at e
    have e2 := congrArg (·[o]?) e
    simp only [List.getElem?_map, hxo', List.getElem?_range ho, Option.map_some, Option.some.injEq] at e2
    exact e2.symm
  obtain ⟨y0, y1, n, hxe, hl4, h0, h1⟩ := trod_struct2 Tryz.underlying179 hxo
  rw [hxe] at hfd
  simp only [formD, DataW.agg.injEq, List.cons.injEq, and_true] at hfd
  obtain ⟨hw, hk⟩ := hfd
  obtain ⟨s, hs, hys, _⟩ := DataW.trod_string Tryz.underlying9 h0
  rw [hys] at hw
  simp only [DataW.lit.injEq, Lit.string.injEq] at hw
  have hsw : s = fWord o := by
    cases s with
    | mk d => cases hfw : fWord o with
      | mk d' => rw [hfw] at hw; congr 1; exact Array.toList_inj.1 hw
  obtain ⟨d1, q1⟩ := y1
  simp only at hk
  rw [hk] at h1
  have hks := kinds_of h1
  simp only [show Tryz.prog.cellsOf 9 = 1 from c9, show Tryz.prog.cellsOf 177 = 3 from c60] at hs hks
  have at_ : ∀ i, W.cell? ⟨0, i, none⟩ = cs[i]? := fun i => World.var?_cell hg' hvar i
  have at0 : ∀ i v, i < 4 → ((cs.toList.drop (o * 4)).take 4)[i]? = some v → W.cell? ⟨0, o * 4 + i, none⟩ = some v := fun i v hi hv => by
    rw [at_, ← Array.getElem?_toList, ← hv, List.getElem?_take, if_pos hi, List.getElem?_drop]
  generalize (cs.toList.drop (o * 4)).take 4 = l at *
  rw [c62] at hl4
  match l, hl4 with
  | [v0, v1, v2, v3], _ =>
    have e0 : v0 = .string s := by simpa using hs
    have e1 : v1 = .int .u8 (fK o).1 ∧ v2 = .int .u8 (fK o).2.1 ∧ v3 = .int .u8 (fK o).2.2 := by simpa using hks
    obtain ⟨e1, e2, e3⟩ := e1
    subst e0 e1 e2 e3 hsw
    exact ⟨at0 0 _ (by decide) rfl, at0 1 _ (by decide) rfl, at0 2 _ (by decide) rfl, at0 3 _ (by decide) rfl⟩
theorem u8_bd {a : Int} (h : (Lit.int .u8 a).wf = true) : byte a := by
  have := bounds_u8 h
  exact this
variable {H : Type} {enc : TypeId × Value → H}
theorem open_instr {w : World} {r : Reach} {b0 base : Nat} {sp : Nat → Bool} {held : Bool} {v : Value} {d : DataW H} {ps : List MemPlace} (hval : Value.okWide Tryz.prog w r b0 70 v) (hd : DataW.Trod enc Tryz.prog w base sp held 70 v d ps) :
    ∃ (o : Nat) (a b c : Int), v = .agg #[.int .u8 o, .int .u8 a, .int .u8 b, .int .u8 c] ∧ o ≤ 255 ∧ byte a ∧ byte b ∧ byte c := by
  obtain ⟨cs, rfl, hn⟩ := okWide_struct Tryz.underlying70 hval
  rw [show Tryz.prog.cellsOf 70 = 4 by kernel_rfl] at hn
  obtain ⟨fuel, hf⟩ := hd
  obtain ⟨xs, m, _, _, _, hl, hel⟩ := DataW.trod_struct Tryz.underlying70 hf
  obtain ⟨l⟩ := cs
  match l, hn with
  | [c0, c1, c2, c3], _ =>
    match xs, hl with
    | [x0, x1, x2, x3], _ =>
      have k22 : Tryz.prog.cellsOf 68 = 1 := by kernel_rfl
      have k5 : Tryz.prog.cellsOf 5 = 1 := by kernel_rfl
      have e0 : DataW.trod enc Tryz.prog w base sp held m 68 (([c0, c1, c2, c3].drop 0).take (Tryz.prog.cellsOf 68)) = some x0 := hel 0 _ rfl
      have e1 : DataW.trod enc Tryz.prog w base sp held m 5 (([c0, c1, c2, c3].drop 1).take (Tryz.prog.cellsOf 5)) = some x1 := hel 1 _ rfl
      have e2 : DataW.trod enc Tryz.prog w base sp held m 5 (([c0, c1, c2, c3].drop 2).take (Tryz.prog.cellsOf 5)) = some x2 := hel 2 _ rfl
      have e3 : DataW.trod enc Tryz.prog w base sp held m 5 (([c0, c1, c2, c3].drop 3).take (Tryz.prog.cellsOf 5)) = some x3 := hel 3 _ rfl
      rw [k22] at e0
      rw [k5] at e1 e2 e3
      obtain ⟨n0, q0, _, w0⟩ := DataW.trod_int Tryz.underlying68 (show DataW.trod enc Tryz.prog w base sp held m 68 [c0] = some x0 from e0)
      obtain ⟨n1, q1, _, w1⟩ := DataW.trod_int Tryz.underlying5 (show DataW.trod enc Tryz.prog w base sp held m 5 [c1] = some x1 from e1)
      obtain ⟨n2, q2, _, w2⟩ := DataW.trod_int Tryz.underlying5 (show DataW.trod enc Tryz.prog w base sp held m 5 [c2] = some x2 from e2)
      obtain ⟨n3, q3, _, w3⟩ := DataW.trod_int Tryz.underlying5 (show DataW.trod enc Tryz.prog w base sp held m 5 [c3] = some x3 from e3)
      simp only [List.cons.injEq, and_true] at q0 q1 q2 q3
      subst q0 q1 q2 q3
      have b0 := u8_bd w0
      refine ⟨n0.toNat, n1, n2, n3, ?_, ?_, u8_bd w1, u8_bd w2, u8_bd w3⟩
      · rw [Int.toNat_of_nonneg b0.1]
      · have := b0.2; omega
theorem open_bytes {w : World} {r : Reach} {b0 base : Nat} {sp : Nat → Bool} {held : Bool} {v : Value} {d : DataW H} {ps : List MemPlace} (hval : Value.okWide Tryz.prog w r b0 198 v) (hd : DataW.Trod enc Tryz.prog w base sp held 198 v d ps) :
    ∃ (o : Nat) (a b c : Int), v = .agg #[.int .u8 o, .int .u8 a, .int .u8 b, .int .u8 c] ∧ o ≤ 255 ∧ byte a ∧ byte b ∧ byte c := by
  obtain ⟨cs, rfl, hn⟩ : ∃ xs : Array Value, v = .agg xs ∧ xs.size = 4 := by
    have h := hval
    simp only [Value.okWide, Tryz.underlying198] at h
    obtain ⟨cs, h1, h2, _⟩ := h
    exact ⟨cs, h1, by rw [h2]; kernel_rfl⟩
  obtain ⟨fuel, hf⟩ := hd
  obtain ⟨xs, m, _, _, _, hl, hel⟩ := DataW.trod_array Tryz.underlying198 hf
  rw [show Tryz.prog.cellsOf 5 = 1 by kernel_rfl] at hel
  obtain ⟨l⟩ := cs
  match l, hn with
  | [c0, c1, c2, c3], _ =>
    match xs, hl with
    | [x0, x1, x2, x3], _ =>
      obtain ⟨n0, q0, _, w0⟩ := DataW.trod_int Tryz.underlying5 (show DataW.trod enc Tryz.prog w base sp held m 5 [c0] = some x0 from hel 0 (by decide))
      obtain ⟨n1, q1, _, w1⟩ := DataW.trod_int Tryz.underlying5 (show DataW.trod enc Tryz.prog w base sp held m 5 [c1] = some x1 from hel 1 (by decide))
      obtain ⟨n2, q2, _, w2⟩ := DataW.trod_int Tryz.underlying5 (show DataW.trod enc Tryz.prog w base sp held m 5 [c2] = some x2 from hel 2 (by decide))
      obtain ⟨n3, q3, _, w3⟩ := DataW.trod_int Tryz.underlying5 (show DataW.trod enc Tryz.prog w base sp held m 5 [c3] = some x3 from hel 3 (by decide))
      simp only [List.cons.injEq, and_true] at q0 q1 q2 q3
      subst q0 q1 q2 q3
      have b0 := u8_bd w0
      refine ⟨n0.toNat, n1, n2, n3, ?_, ?_, u8_bd w1, u8_bd w2, u8_bd w3⟩
      · rw [Int.toNat_of_nonneg b0.1]
      · have := b0.2; omega
end Go.Proofs.YtomccgodfimaiaaGreatDoor
