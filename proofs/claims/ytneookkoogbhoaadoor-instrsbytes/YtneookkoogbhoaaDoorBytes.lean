/-
  Proved: 'InstrsBytes' returns true for every instruction and every four bytes: whether an instruction may be, its bytes, and the instruction of any four bytes, are exactly the document's, or they are refused (P2.1, P2.2). Condition: the listed package-level variables lie in memory as the program's own text lays them (the card ties them to it).
-/
import Derived.Test.YtneookkoogbhoaaDoorBytesWalk
import Derived.Test.YtneookkoogbhoaaDoorLaid
import Derived.Test.YtneookkoogbhoaaDoorCards
import Derived.Test.YtneookkoogbhoaaDoorTie
import Derived.SevenTiedAt
namespace Go.Proofs.YtneookkoogbhoaaDoor.instrsBytes
open Go Go.ChangeShapes Go.WideShapes Go.ChangeAt Go.RowKit
set_option linter.unusedVariables false

theorem env_of {W : World} (h : laidMetH Tryd.prog Rows.instrsBytesRow.laid W) : Env W := by
  rw [MakeChecks.laidMetH_plain _ _ _ (by kernel_rfl)] at h
  have h1 := h.tail.tail
  have h2 := h1.tail.tail.tail
  exact ⟨forms_of h2, pow_of h1, by have := var_lt powAt (pow_of h1); omega⟩

theorem walk (o p : Nat) (a b c d e f : Int) (ho : o ≤ 255) (hp : p ≤ 255) (ha : byte a) (hb : byte b) (hc : byte c) (hd : byte d) (he : byte e) (hf : byte f) (w : World) (hE : Env w) :
    Calls Tryd.prog 3 #[.agg #[.int .u8 o, .int .u8 a, .int .u8 b, .int .u8 c], .agg #[.int .u8 p, .int .u8 d, .int .u8 e, .int .u8 f]] w fun e w' => e = .returned (.bool true) ∧ Below w.heap.size w w' := by
  cases hm : may p d e f with
  | true => exact bytes_yes o p ho hp a b c d e f ha hb hc hd he hf w hE hm
  | false => exact bytes_no o p ho hp a b c d e f ha hb hc hd he hf w hE hm

theorem door_met (os : Os) (args : Array Value) : laidMetH Tryd.prog Rows.instrsBytesRow.laid ((World.doorLaid Tryd.prog 121 os).forCall (fun _ _ => 0) ⟨#[], args, []⟩).memory :=
  laidMetH_of_parts3 (fuel := 8) (laidMet_of_run' 8 (by kernel_rfl) (by kernel_rfl)) (by kernel_rfl) (by kernel_rfl)

set_option maxRecDepth 100000 in
theorem lifted (os : Os) (started : os.Started) (H : Type) (enc : TypeId × Value → H) :
    ReturnsInHanded {} Tryd.checked os 3 .any (fun w args => (Rows.instrsBytesSpec.pre enc Tryd.prog Tryd.f3 [] false w args ∧ laidMetH Tryd.prog Rows.instrsBytesRow.laid w) ∧ sizedMet enc Tryd.prog Tryd.f3 (OpenSpec.ofChange Rows.instrsBytesSpec) false w args)
      (Rows.instrsBytesSpec.post enc Tryd.prog Tryd.f3 false true false false) := by
  refine returnsInHanded_of_change_and (C := Tryd.checked) (X := fun w _ => laidMetH Tryd.prog Rows.instrsBytesRow.laid w) (fun _ _ _ hh h => h.of_heap hh) own started (by kernel_rfl) Tryd.func3
    (ChangeSpec.witness_shaped (enc := enc) (C := Tryd.checked) (os := os) (X := fun w _ => laidMetH Tryd.prog Rows.instrsBytesRow.laid w) false (World.doorLaid Tryd.prog 121 os) #[.agg #[.int .u8 0, .int .u8 0, .int .u8 0, .int .u8 0], .agg #[.int .u8 0, .int .u8 0, .int .u8 0, .int .u8 0]] 8 rfl (World.shaped_of_RefB (by kernel_rfl) (by kernel_rfl)) (by kernel_rfl) (by kernel_rfl) (by kernel_rfl) (door_met os _)) ?_
  intro W base args ds gs before hval0 hW _ _ hL _
  have hval : ∀ (j : Nat) t v, Tryd.f3.params[j]? = some t → args[j]? = some v → Value.okWide Tryd.prog W .any base t v := hval0
  have hW' := hW
  obtain ⟨p, q, hA0, hV, rfl, hfz, hnd⟩ := hW
  have hA : DataW.TrodAll enc Tryd.prog W 0 (fun _ => true) true Tryd.f3.params.toList args.toList ds p := hA0
  rw [Tryd.params3] at hA hval
  obtain ⟨v0, vs0, d0, ds0, p0, q0, hargs, rfl, rfl, h0, r0⟩ := trodAll_cons hA
  obtain ⟨v1, vs1, d1, ds1, p1, q1, rfl, rfl, rfl, h1, r1⟩ := trodAll_cons r0
  obtain ⟨rfl, rfl, rfl⟩ := trodAll_nil r1
  obtain rfl : args = #[v0, v1] := by cases args; simp_all
  obtain ⟨rfl, rfl⟩ := trodVars_none hV
  have lt0 : ∀ x ∈ p0, x.block < W.heap.size := by obtain ⟨m, hm⟩ := h0; exact DataW.trod_lt m _ _ _ hm
  have lt1 : ∀ x ∈ p1, x.block < W.heap.size := by obtain ⟨m, hm⟩ := h1; exact DataW.trod_lt m _ _ _ hm
  obtain ⟨o, a, b, c, e0, ho, ha, hb, hc⟩ := open_instr (hval 0 24 v0 rfl rfl) h0
  obtain ⟨o', a', b', c', e1, ho', ha', hb', hc'⟩ := open_bytes (hval 1 25 v1 rfl rfl) h1
  subst e0 e1
  clear hA0 hval0
  refine (walk o o' a b c a' b' c' ho ho' ha hb hc ha' hb' hc' W (env_of hL)).mono fun e W' ⟨he, bel⟩ => ?_
  subst he
  exact ⟨_, rfl, _, _, _, [], _, [], hW', trodAll_mk1 (shut_bool Tryd.underlying4 _), (trodAll_cons_mk (Below.trod laidOut (by kernel_rfl) (of_decide_eq_true (by kernel_rfl)) h0 bel lt0) (trodAll_cons_mk (Below.trod laidOut (by kernel_rfl) (of_decide_eq_true (by kernel_rfl)) h1 bel lt1) trodAll_mk0)), rfl, bel.frame _, fun h => by cases h⟩

theorem row_holds : Rows.InstrsBytesSaid :=
  OpenClaim.holds_of_wide 3 Tryd.f3 rfl rfl rfl rfl rfl rfl rfl ⟨rfl, rfl, rfl, rfl, rfl⟩ rfl rfl rfl rfl rfl (by kernel_rfl) Tryd.func3 (by kernel_rfl)
    (of_decide_eq_true (by kernel_rfl)) (by unfold Func.isWrapper; first | (rw [if_pos (by decide +kernel)]; kernel_rfl) | (rw [if_neg (by decide +kernel)]; exact ⟨rfl, rfl⟩))
    (fun os started H enc _ => lifted os started H enc)

theorem card_holds : Rows.InstrsBytesCardSaid :=
  Claim7.holds_tied_plain_at .later [] [.data, .data, .data, .sentinel, .sentinel, .wider] true (true, "1de0979d00dc6deb348f28d0a8a564eefaa309bbe92a55fdfeeb00a1a400ecf9") true
    row_holds (fun _ h => by cases h) (by kernel_rfl) (fun _ h => by cases h) instrsBytes_row_tie rfl ⟨rfl, rfl⟩ (by kernel_rfl) rfl
    (fun f fn hf hfn => by
      obtain rfl : f = 3 := Option.some.inj ((show Tryd.prog.funcNamed "timekeeper/timekeeperlaw02.InstrsBytes" = some 3 by kernel_rfl).symm.trans hf) |>.symm
      obtain rfl : fn = Tryd.f3 := (Option.some.inj (Tryd.func3.symm.trans hfn)).symm
      exact ⟨by kernel_rfl, fun j t ht => by
        rw [Tryd.params3] at ht
        have hm : t ∈ [24, 25] := by simpa using Array.mem_of_getElem? ht
        have hall : ([24, 25].all fun u => !Tryd.prog.wantsStandIn u) = true := by kernel_rfl
        exact (show Tryd.prog.wantsStandIn t = false by simpa using List.all_eq_true.1 hall t hm)⟩)
    (by kernel_rfl)
end Go.Proofs.YtneookkoogbhoaaDoor.instrsBytes
namespace Go.Proofs.YtneookkoogbhoaaDoor
theorem instrsBytes_holds : Rows.InstrsBytesCardSaid := instrsBytes.card_holds
end Go.Proofs.YtneookkoogbhoaaDoor
