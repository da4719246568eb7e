/-
  The parts of an image that may be stand in its bytes, one behind the other: for any image; nothing that was handed in is changed.
-/
import Derived.Test.YtcjghnnliepjjabDoorPartsWalk
import Derived.Test.YtcjghnnliepjjabDoorArgs
import Derived.Test.YtcjghnnliepjjabDoorLaid2
import Derived.Test.YtcjghnnliepjjabDoorCards
import Derived.Test.YtcjghnnliepjjabDoorTie
import Derived.SevenTiedAt
import Derived.Carry
import Derived.ChangeMaps5
namespace Go.Proofs.YtcjghnnliepjjabDoor.imagesParts
open Go Go.ChangeShapes Go.WideShapes Go.ChangeAt Go.RowKit
set_option linter.unusedVariables false

theorem env_of {W : World} (h : laidMetH Tryd.prog Rows.imagesPartsRow.laid W) (hs : W.ShapedOpen Tryd.prog) : Env3 W := by
  rw [MakeChecks.laidMetH_plain _ _ _ (by kernel_rfl)] at h
  have h1 := h.tail.tail
  have hr := h.tail.tail.tail.tail
  have hy := h.tail.tail.tail.tail.tail
  have h2 := h.tail.tail.tail.tail.tail.tail
  have er := errAt (g := 3) (by kernel_rfl) (by kernel_rfl) hr
  have ey := errAt (g := 2) (by kernel_rfl) (by kernel_rfl) hy
  have lt4 := var_lt powAt (pow_of h1)
  exact ⟨⟨⟨forms_of h2, pow_of h1, by omega⟩, row_of h2, ⟨ey.1, er.1, by omega⟩⟩, num_of hs⟩

set_option maxRecDepth 100000 in
theorem met (os : Os) (args : Array Value) : laidMetH Tryd.prog Rows.imagesPartsRow.laid ((World.laidAll Tryd.prog os Rows.imagesPartsRow.laid).forCall (fun _ _ => 0) ⟨#[], args, []⟩).memory := by
  rw [MakeChecks.laidMetH_plain _ _ _ (by kernel_rfl)]
  exact laidMet_laidAll _ (by kernel_rfl) (by kernel_rfl)

set_option maxRecDepth 100000 in
theorem lifted (os : Os) (started : os.Started) (H : Type) (enc : TypeId × Value → H) :
    ReturnsInHanded {} Tryd.checked os 6 .any (fun w args => (Rows.imagesPartsSpec.pre enc Tryd.prog Tryd.f6 [] false w args ∧ laidMetH Tryd.prog Rows.imagesPartsRow.laid w) ∧ sizedMet enc Tryd.prog Tryd.f6 (OpenSpec.ofChange Rows.imagesPartsSpec) false w args)
      (Rows.imagesPartsSpec.post enc Tryd.prog Tryd.f6 false true false false) := by
  refine returns_and_shaped (C := Tryd.checked) (X := fun w _ => laidMetH Tryd.prog Rows.imagesPartsRow.laid w) (fun _ _ _ hh h => h.of_heap hh) own started (by kernel_rfl) Tryd.func6
    (ChangeSpec.witness_shaped (enc := enc) (C := Tryd.checked) (os := os) (X := fun w _ => laidMetH Tryd.prog Rows.imagesPartsRow.laid w) false (World.laidAll Tryd.prog os Rows.imagesPartsRow.laid) #[.agg #[.int .i64 0, .slice none 0 0, .slice none 0 0]] 8 (World.laidAll_os _ _ _) (World.shaped_of_ZipB (by kernel_rfl) (by kernel_rfl)) (by kernel_rfl) (by kernel_rfl) (by kernel_rfl) (met os _)) ?_
  intro W base args ds gs before hval0 hW hL hs
  have hval : ∀ (j : Nat) t v, Tryd.f6.params[j]? = some t → args[j]? = some v → Value.okWide Tryd.prog W .any base t v := hval0
  have hW' := hW
  obtain ⟨p, q, hA0, hV, rfl, hfz, hnd⟩ := hW
  have hA : DataW.TrodAll enc Tryd.prog W 0 (fun _ => true) true Tryd.f6.params.toList args.toList ds p := hA0
  rw [Tryd.params6] at hA hval
  obtain ⟨v0, vs0, d0, ds0, p0, q0, hargs, rfl, rfl, h0, r0⟩ := trodAll_cons hA
  obtain ⟨rfl, rfl, rfl⟩ := trodAll_nil r0
  obtain rfl : args = #[v0] := by cases args; simp_all
  obtain ⟨rfl, rfl⟩ := trodVars_none hV
  have lt0 : ∀ x ∈ p0, x.block < W.heap.size := by obtain ⟨m, hm⟩ := h0; exact DataW.trod_lt m _ _ _ hm
  obtain ⟨n0, sp0, ds0, dc0, cp0, cs0, k0, kc0, e0, hi0, lo0, hh0⟩ := open_image (hval 0 26 v0 rfl rfl) h0
  subst e0
  clear hA0 hval0
  refine (parts_any (env_of hL hs) hi0).mono fun e W' ⟨he, bel⟩ => ?_
  subst he
  exact ⟨_, rfl, _, _, _, [], _, [], hW', trodAll_mk1 (shut_bool Tryd.underlying4 _), (trodAll_cons_mk (Below.trod laidOut (by kernel_rfl) (of_decide_eq_true (by kernel_rfl)) h0 bel lt0) trodAll_mk0), rfl, bel.frame _, fun h => by cases h⟩

theorem row_holds : Rows.ImagesPartsSaid :=
  OpenClaim.holds_of_wide 6 Tryd.f6 rfl rfl rfl rfl rfl rfl rfl ⟨rfl, rfl, rfl, rfl, rfl⟩ rfl rfl rfl rfl rfl (by kernel_rfl) Tryd.func6 (by kernel_rfl)
    (of_decide_eq_true (by kernel_rfl)) (by unfold Func.isWrapper; first | (rw [if_pos (by decide +kernel)]; kernel_rfl) | (rw [if_neg (by decide +kernel)]; exact ⟨rfl, rfl⟩))
    (fun os started H enc _ => lifted os started H enc)

theorem card_holds : Rows.ImagesPartsCardSaid :=
  Claim7.holds_tied_plain_at .later [] [.data, .data, .data, .data, .sentinel, .sentinel, .wider, .pinned] true (true, "42d65f3cc2c88937b8fd41adda547d4dbe023fd8911499a28225c0e7457f73ac") true
    row_holds (fun _ h => by cases h) (by kernel_rfl) (fun _ h => by cases h) imagesParts_row_tie rfl ⟨rfl, rfl⟩ (by kernel_rfl) rfl
    (fun f fn hf hfn => by
      obtain rfl : f = 6 := Option.some.inj ((show Tryd.prog.funcNamed "timekeeper/timekeeperlaw13.ImagesParts" = some 6 by kernel_rfl).symm.trans hf) |>.symm
      obtain rfl : fn = Tryd.f6 := (Option.some.inj (Tryd.func6.symm.trans hfn)).symm
      exact ⟨by kernel_rfl, fun j t ht => by
        rw [Tryd.params6] at ht
        have hm : t ∈ [26] := by simpa using Array.mem_of_getElem? ht
        have hall : ([26].all fun u => !Tryd.prog.wantsStandIn u) = true := by kernel_rfl
        exact (show Tryd.prog.wantsStandIn t = false by simpa using List.all_eq_true.1 hall t hm)⟩)
    (by kernel_rfl)
end Go.Proofs.YtcjghnnliepjjabDoor.imagesParts
namespace Go.Proofs.YtcjghnnliepjjabDoor
/-- The given statement, whole. -/
theorem imagesParts_holds : Rows.ImagesPartsCardSaid := imagesParts.card_holds
#print axioms imagesParts_holds
end Go.Proofs.YtcjghnnliepjjabDoor
