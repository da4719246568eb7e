/-
  Proved: 'InstrsRegisters' returns true for every Op and every three numbers: where a register stands one above 7 may not be, and any other one may, for each Op (P2.1). Condition: the listed package-level variables lie in memory as the program's own text lays them (the card ties them to it).
-/
import Derived.Test.YtneookkoogbhoaaDoorRegWalk
import Derived.Test.YtneookkoogbhoaaDoorLaid2
import Derived.Test.YtneookkoogbhoaaDoorCards
import Derived.Test.YtneookkoogbhoaaDoorTie
import Derived.SevenTiedAt
namespace Go.Proofs.YtneookkoogbhoaaDoor.instrsRegisters
open Go Go.ChangeShapes Go.WideShapes Go.ChangeAt Go.RowKit
set_option linter.unusedVariables false
set_option maxRecDepth 100000

variable {H : Type} {enc : TypeId × Value → H}
theorem open_op {w : World} {r : Reach} {b0 base : Nat} {sp : Nat → Bool} {held : Bool} {v : Value} {d : DataW H} {ps : List MemPlace} (hval : Value.okWide Tryd.prog w r b0 22 v) (hd : DataW.Trod enc Tryd.prog w base sp held 22 v d ps) :
    ∃ (o : Nat), v = .int .u8 o ∧ o ≤ 255 := by
  obtain ⟨x, rfl, rfl, rfl, wx⟩ := open_int Tryd.underlying22 hval hd
  have b0 := u8_bd wx
  refine ⟨x.toNat, ?_, ?_⟩
  · rw [Int.toNat_of_nonneg b0.1]
  · have := b0.2; omega
theorem open_three {w : World} {r : Reach} {b0 base : Nat} {sp : Nat → Bool} {held : Bool} {v : Value} {d : DataW H} {ps : List MemPlace} (hval : Value.okWide Tryd.prog w r b0 39 v) (hd : DataW.Trod enc Tryd.prog w base sp held 39 v d ps) :
    ∃ (a b c : Int), v = .agg #[.int .u8 a, .int .u8 b, .int .u8 c] ∧ byte a ∧ byte b ∧ byte c := by
  obtain ⟨cs, rfl, hn⟩ : ∃ xs : Array Value, v = .agg xs ∧ xs.size = 3 := by
    have h := hval
    simp only [Value.okWide, Tryd.underlying39] at h
    obtain ⟨cs, h1, h2, _⟩ := h
    exact ⟨cs, h1, by rw [h2]; kernel_rfl⟩
  obtain ⟨fuel, hf⟩ := hd
  obtain ⟨xs, m, _, _, _, hl, hel⟩ := DataW.trod_array Tryd.underlying39 hf
  rw [show Tryd.prog.cellsOf 5 = 1 by kernel_rfl] at hel
  obtain ⟨l⟩ := cs
  match l, hn with
  | [c0, c1, c2], _ =>
    match xs, hl with
    | [x0, x1, x2], _ =>
      obtain ⟨n0, q0, _, w0⟩ := DataW.trod_int Tryd.underlying5 (show DataW.trod enc Tryd.prog w base sp held m 5 [c0] = some x0 from hel 0 (by decide))
      obtain ⟨n1, q1, _, w1⟩ := DataW.trod_int Tryd.underlying5 (show DataW.trod enc Tryd.prog w base sp held m 5 [c1] = some x1 from hel 1 (by decide))
      obtain ⟨n2, q2, _, w2⟩ := DataW.trod_int Tryd.underlying5 (show DataW.trod enc Tryd.prog w base sp held m 5 [c2] = some x2 from hel 2 (by decide))
      simp only [List.cons.injEq, and_true] at q0 q1 q2
      subst q0 q1 q2
      exact ⟨n0, n1, n2, rfl, u8_bd w0, u8_bd w1, u8_bd w2⟩

theorem env_of {W : World} (h : laidMetH Tryd.prog Rows.instrsRegistersRow.laid W) (hs : W.ShapedOpen Tryd.prog) : Env3 W := by
  rw [MakeChecks.laidMetH_plain _ _ _ (by kernel_rfl)] at h
  have h1 := h.tail.tail
  have hr := h1.tail.tail
  have hy := hr.tail
  have h2 := hy.tail
  have er := errAt (g := 6) (by kernel_rfl) (by kernel_rfl) hr
  have ey := errAt (g := 5) (by kernel_rfl) (by kernel_rfl) hy
  exact ⟨⟨⟨forms_of h2, pow_of h1, by have := var_lt powAt (pow_of h1); omega⟩, row_of h2, ⟨ey.1, er.1, er.2⟩⟩, num_of hs⟩

set_option maxRecDepth 100000 in
theorem met (os : Os) (args : Array Value) : laidMetH Tryd.prog Rows.instrsRegistersRow.laid ((World.laidAll Tryd.prog os Rows.instrsRegistersRow.laid).forCall (fun _ _ => 0) ⟨#[], args, []⟩).memory := by
  rw [MakeChecks.laidMetH_plain _ _ _ (by kernel_rfl)]
  exact laidMet_laidAll _ (by kernel_rfl) (by kernel_rfl)

set_option maxRecDepth 100000 in
theorem lifted (os : Os) (started : os.Started) (H : Type) (enc : TypeId × Value → H) :
    ReturnsInHanded {} Tryd.checked os 7 .any (fun w args => (Rows.instrsRegistersSpec.pre enc Tryd.prog Tryd.f7 [] false w args ∧ laidMetH Tryd.prog Rows.instrsRegistersRow.laid w) ∧ sizedMet enc Tryd.prog Tryd.f7 (OpenSpec.ofChange Rows.instrsRegistersSpec) false w args)
      (Rows.instrsRegistersSpec.post enc Tryd.prog Tryd.f7 false true false false) := by
  refine returns_and_shaped (C := Tryd.checked) (X := fun w _ => laidMetH Tryd.prog Rows.instrsRegistersRow.laid w) (fun _ _ _ hh h => h.of_heap hh) own started (by kernel_rfl) Tryd.func7
    (ChangeSpec.witness_shaped (enc := enc) (C := Tryd.checked) (os := os) (X := fun w _ => laidMetH Tryd.prog Rows.instrsRegistersRow.laid w) false (World.laidAll Tryd.prog os Rows.instrsRegistersRow.laid) #[.int .u8 0, .agg #[.int .u8 0, .int .u8 0, .int .u8 0]] 8 (World.laidAll_os _ _ _) (World.shaped_of_ZipB (by kernel_rfl) (by kernel_rfl)) (by kernel_rfl) (by kernel_rfl) (by kernel_rfl) (met os _)) ?_
  intro W base args ds gs before hval0 hW hL hs
  have hval : ∀ (j : Nat) t v, Tryd.f7.params[j]? = some t → args[j]? = some v → Value.okWide Tryd.prog W .any base t v := hval0
  have hW' := hW
  obtain ⟨p, q, hA0, hV, rfl, hfz, hnd⟩ := hW
  have hA : DataW.TrodAll enc Tryd.prog W 0 (fun _ => true) true Tryd.f7.params.toList args.toList ds p := hA0
  rw [Tryd.params7] at hA hval
  obtain ⟨v0, vs0, d0, ds0, p0, q0, hargs, rfl, rfl, h0, r0⟩ := trodAll_cons hA
  obtain ⟨v1, vs1, d1, ds1, p1, q1, rfl, rfl, rfl, h1, r1⟩ := trodAll_cons r0
  obtain ⟨rfl, rfl, rfl⟩ := trodAll_nil r1
  obtain rfl : args = #[v0, v1] := by cases args; simp_all
  obtain ⟨rfl, rfl⟩ := trodVars_none hV
  have lt0 : ∀ x ∈ p0, x.block < W.heap.size := by obtain ⟨m, hm⟩ := h0; exact DataW.trod_lt m _ _ _ hm
  have lt1 : ∀ x ∈ p1, x.block < W.heap.size := by obtain ⟨m, hm⟩ := h1; exact DataW.trod_lt m _ _ _ hm
  obtain ⟨o, e0, ho⟩ := open_op (hval 0 22 v0 rfl rfl) h0
  obtain ⟨a, b, c, e1, ha, hb, hc⟩ := open_three (hval 1 39 v1 rfl rfl) h1
  subst e0 e1
  clear hA0 hval0
  refine (reg_any o ho a b c ha hb hc W (env_of hL hs)).mono fun e W' ⟨he, bel⟩ => ?_
  subst he
  exact ⟨_, rfl, _, _, _, [], _, [], hW', trodAll_mk1 (shut_bool Tryd.underlying4 _), (trodAll_cons_mk (Below.trod laidOut (by kernel_rfl) (of_decide_eq_true (by kernel_rfl)) h0 bel lt0) (trodAll_cons_mk (Below.trod laidOut (by kernel_rfl) (of_decide_eq_true (by kernel_rfl)) h1 bel lt1) trodAll_mk0)), rfl, bel.frame _, fun h => by cases h⟩

theorem row_holds : Rows.InstrsRegistersSaid :=
  OpenClaim.holds_of_wide 7 Tryd.f7 rfl rfl rfl rfl rfl rfl rfl ⟨rfl, rfl, rfl, rfl, rfl⟩ rfl rfl rfl rfl rfl (by kernel_rfl) Tryd.func7 (by kernel_rfl)
    (of_decide_eq_true (by kernel_rfl)) (by unfold Func.isWrapper; first | (rw [if_pos (by decide +kernel)]; kernel_rfl) | (rw [if_neg (by decide +kernel)]; exact ⟨rfl, rfl⟩))
    (fun os started H enc _ => lifted os started H enc)

theorem card_holds : Rows.InstrsRegistersCardSaid :=
  Claim7.holds_tied_plain_at .later [] [.data, .data, .data, .data, .sentinel, .sentinel, .wider, .pinned] true (true, "1de0979d00dc6deb348f28d0a8a564eefaa309bbe92a55fdfeeb00a1a400ecf9") true
    row_holds (fun _ h => by cases h) (by kernel_rfl) (fun _ h => by cases h) instrsRegisters_row_tie rfl ⟨rfl, rfl⟩ (by kernel_rfl) rfl
    (fun f fn hf hfn => by
      obtain rfl : f = 7 := Option.some.inj ((show Tryd.prog.funcNamed "timekeeper/timekeeperlaw02.InstrsRegisters" = some 7 by kernel_rfl).symm.trans hf) |>.symm
      obtain rfl : fn = Tryd.f7 := (Option.some.inj (Tryd.func7.symm.trans hfn)).symm
      exact ⟨by kernel_rfl, fun j t ht => by
        rw [Tryd.params7] at ht
        have hm : t ∈ [22, 39] := by simpa using Array.mem_of_getElem? ht
        have hall : ([22, 39].all fun u => !Tryd.prog.wantsStandIn u) = true := by kernel_rfl
        exact (show Tryd.prog.wantsStandIn t = false by simpa using List.all_eq_true.1 hall t hm)⟩)
    (by kernel_rfl)
end Go.Proofs.YtneookkoogbhoaaDoor.instrsRegisters
namespace Go.Proofs.YtneookkoogbhoaaDoor
theorem instrsRegisters_holds : Rows.InstrsRegistersCardSaid := instrsRegisters.card_holds
end Go.Proofs.YtneookkoogbhoaaDoor
