/- The function that a rank is ranged over by: each one of it, the first one first. -/
import Derived.Test.YtjhpiecbolmleaaGreatDoorRMem
import Derived.Test.YtjhpiecbolmleaaGreatDoorLList
import Derived.RangeFuncBox
import Derived.RangeFuncLeaves
import Derived.RangeFuncCalls
import Derived.Shelf.Abstract
import Derived.Shelf.RegionOpen
import Derived.OwnWalkIn
import Derived.TacticsInMore
import Derived.LoopNIn
import Derived.LoopIn
import Derived.Maps.AppendAt
import Derived.Sort.QuietTacIn
namespace Go.Proofs.YtjhpiecbolmleaaGreatDoor
open Go Go.RowKit Go.Shelf
attribute [local go_sem] Oper.semAt_some
set_option maxRecDepth 100000
set_option linter.unusedVariables false
set_option linter.unusedSimpArgs false
/-- a block that the slice in a box owns -/
def Owned (W : World) (t k : Nat) : Prop := ∃ v, W.cell? ⟨t, 0, none⟩ = some v ∧ v.ownBlock = some k
/-- what a round keeps: all cells but a box, and what the slice in it owns -/
structure KL (t : Nat) (W W' : World) : Prop where
  size : W.heap.size ≤ W'.heap.size
  keep : ∀ (k : Nat) (cs : Array Value) (ty : TypeId) (f : Nat × Nat), W.heap[k]? = some (.cells cs ty f) → k ≠ t → ¬ Owned W t k → W'.heap[k]? = some (.cells cs ty f)
  own : ∀ k, Owned W' t k → Owned W t k ∨ W.heap.size ≤ k
theorem KL.refl (t : Nat) (W : World) : KL t W W := ⟨Nat.le_refl _, fun _ _ _ _ h _ _ => h, fun _ h => Or.inl h⟩
theorem KL.trans {t : Nat} {A B C : World} (h : KL t A B) (k : KL t B C) : KL t A C := by
  refine ⟨Nat.le_trans h.size k.size, fun i cs ty f hi hne ho => ?_, fun i hi => ?_⟩
  · refine k.keep i cs ty f (h.keep i cs ty f hi hne ho) hne fun hb => ?_
    rcases h.own i hb with hb | hb
    · exact ho hb
    · have := at_lt hi; omega
  · rcases k.own i hi with hi | hi
    · exact h.own i hi
    · have := h.size; exact Or.inr (by omega)
theorem kl_b {t : Nat} {w : World} (ht : t < w.heap.size) (W : World) (l : Nat) (o o' : Obj) (hl : w.heap.size ≤ l) (h : W.heap[l]? = some o) (ho : o.isCells = false) (_ : o.isWalk = false) : KL t W (W.putObj l o') := by
  have hg := grownBy_putObj' W l o'
  refine ⟨hg.size, fun k cs ty f hk _ _ => ?_, fun k hk => ?_⟩
  · rw [hg.block k (at_lt hk) (fun e => ?_)]
    · exact hk
    · rw [Option.some.injEq] at e
      subst e
      rw [h] at hk
      cases hk
      cases ho
  · obtain ⟨v, hv, hvb⟩ := hk
    refine Or.inl ⟨v, ?_, hvb⟩
    rw [← hv]
    refine (World.cell?_of_block ?_).symm
    refine hg.block t ?_ (fun e => by rw [Option.some.injEq] at e; omega)
    have := (Array.getElem?_eq_some_iff.1 h).1
    omega
theorem KL.heap {t : Nat} {W W' : World} (h : W'.heap = W.heap) : KL t W W' :=
  ⟨by rw [h]; exact Nat.le_refl _, fun k cs ty f hk _ _ => by rw [h]; exact hk, fun k ⟨v, hv, hvb⟩ => Or.inl ⟨v, by rw [← hv]; exact (World.cell?_of_block (by rw [h])).symm, hvb⟩⟩
/-- what speaks of cells, and of what lies below, alone -/
theorem ownFrom_of {β : Type} {B : Nat} {I : β → World → Prop} (h : ∀ s W W', I s W → (∀ (k : Nat) (cs : Array Value) (t : TypeId) (f : Nat × Nat), W.heap[k]? = some (Obj.cells cs t f) → W'.heap[k]? = some (Obj.cells cs t f)) → (∀ n₀, n₀ ≤ B → n₀ ≤ W.heap.size → Below n₀ W W') → I s W') : OwnFrom B I := by
  intro s W W' row hs hg hr
  refine h s W W' hs (fun k cs t f hk => ?_) (fun n₀ hn hB => ⟨hg.os, hg.tape, hg.output, hg.size, fun k hk => hg.block k (by omega) (fun e => ?_)⟩)
  · rw [hg.block k (at_lt hk) (fun e => ?_)]
    · exact hk
    · obtain ⟨_, o, ho, hc⟩ := hr k e.symm
      rw [hk] at ho; cases ho; cases hc
  · have := (hr k e.symm).1
    omega
theorem keeps_drewN (W : World) : ∀ n, KeepsOthers W (W.drewN n)
  | 0 => KeepsOthers.refl W
  | n + 1 => ⟨(keeps_drewN W n).size, fun k o h ho => (keeps_drewN W n).same k o h ho⟩
theorem heap_drewN (W : World) : ∀ n, (W.drewN n).heap = W.heap
  | 0 => rfl
  | n + 1 => heap_drewN W n
theorem qthere_yes {w : World} {p a : Nat} (h : w.cell? ⟨p, 0, none⟩ = some (.pointer (some ⟨a, 0, none⟩))) :
    Calls Tryz.prog 27 #[.pointer (some ⟨p, 0, none⟩)] w fun e w' => e = .returned (.bool true) ∧ w = w' := by
  go_enter Tryz.func27, Tryz.ntmps27
  go_wp2
  go_ret
  exact ⟨rfl, rfl⟩
theorem qthere_nil {w : World} : Calls Tryz.prog 27 #[.pointer none] w fun e w' => e = .returned (.bool false) ∧ w = w' := by
  go_enter Tryz.func27, Tryz.ntmps27
  go_wp2
  go_ret
  exact ⟨rfl, rfl⟩
theorem isRank_any (r : Int) (w : World) : Calls Tryz.prog 58 #[.int .i64 r] w fun e w' => e = .returned (.bool (decide (0 ≤ r ∧ r ≤ 31))) ∧ w = w' := by
  go_enter Tryz.func58, Tryz.ntmps58
  go_wp2
  all_goals
    go_ret
    refine ⟨?_, rfl⟩
    simp
    try omega
theorem isRank_yes (r : Int) (w : World) (h : 0 ≤ r ∧ r ≤ 31) : Calls Tryz.prog 58 #[.int .i64 r] w fun e w' => e = .returned (.bool true) ∧ w = w' := by
  have := isRank_any r w
  rwa [decide_eq_true h] at this
theorem isRank_no (r : Int) (w : World) (h : ¬ (0 ≤ r ∧ r ≤ 31)) : Calls Tryz.prog 58 #[.int .i64 r] w fun e w' => e = .returned (.bool false) ∧ w = w' := by
  have := isRank_any r w
  rwa [decide_eq_false h] at this
theorem those_any (p : Option Addr) (r : Int) (w : World) :
    Calls Tryz.prog 29 #[.pointer p, .int .i64 r] w fun e w' => e = .returned (.func (.func 66) #[] #[.pointer (some ⟨w.heap.size, 0, none⟩), .pointer (some ⟨w.heap.size + 1, 0, none⟩)]) ∧ w' = (w.alloc (.cells #[.pointer p] 24)).alloc (.cells #[.int .i64 r] 3) := by
  go_enter Tryz.func29, Tryz.ntmps29
  go_wp2
  go_ret
  exact ⟨by simp, rfl⟩
set_option maxHeartbeats 2000000 in
/-- a queue that is not there, or a rank that may not be: nobody -/
theorem seq0 (n : Nat) (hn : 1 ≤ n) (l Bq Br : Nat) (po : Option Addr) (r : Int) (J Jx : List Int → World → Prop) (W : World)
    (hq : W.cell? ⟨Bq, 0, none⟩ = some (.pointer po)) (hr : W.cell? ⟨Br, 0, none⟩ = some (.int .i64 r))
    (hno : po = none ∨ ((∃ p a, po = some ⟨p, 0, none⟩ ∧ W.cell? ⟨p, 0, none⟩ = some (.pointer (some ⟨a, 0, none⟩))) ∧ ¬ (0 ≤ r ∧ r ≤ 31))) (h0 : J [] W) :
    CallsIn Fence.wide n Tryz.prog 66 #[.func (.yield l) #[] #[], .pointer (some ⟨Bq, 0, none⟩), .pointer (some ⟨Br, 0, none⟩)] W fun e W' => (∃ v, e = .returned v) ∧
      ((∃ ys, ys = [] ∧ J ys W') ∨ (∃ pre, pre <+: [] ∧ Jx pre W')) := by
  refine callsIn_of_wp Tryz.func66 rfl trivial ?_ rfl
  simp only [Tryz.ntmps66, List.size_toArray, List.length_cons, List.length_nil, Nat.reduceAdd, Nat.reduceSub, Array.replicate_succ, Array.replicate_zero, List.push_toArray, List.append_toArray, List.nil_append, List.cons_append]
  rcases hno with rfl | ⟨⟨p, a, rfl, hp⟩, hnr⟩
  · gi_wp2_with (first
      | (refine ⟨trivial, ?_⟩; gi_at_call 27; refine (callsIn_wide.2 (qthere_nil)).mono ?_; rintro e w' ⟨rfl, rfl⟩)
      | (refine ⟨trivial, ?_⟩))
    gi_wp2
    refine bodyPost_ret (results_none rfl _ _ _) rfl ?_
    exact ⟨⟨_, rfl⟩, .inl ⟨[], rfl, h0⟩⟩
  · gi_wp2_with (refine ⟨trivial, ?_⟩; first
      | (gi_at_call 27; refine (callsIn_wide.2 (qthere_yes hp)).mono ?_; rintro e w' ⟨rfl, rfl⟩)
      | (gi_at_call 58; refine (callsIn_wide.2 (isRank_no r _ hnr)).mono ?_; rintro e w' ⟨rfl, rfl⟩))
    refine bodyPost_ret (results_none rfl _ _ _) rfl ?_
    exact ⟨⟨_, rfl⟩, .inl ⟨[], rfl, h0⟩⟩
theorem KL.row {t : Nat} {W W' : World} (h : KL t W W') {G : Nat} {xs : List Int} (hr : Row W G xs) (hne : G ≠ t) (ho : ¬ Owned W t G) : Row W' G xs := h.keep G _ _ _ hr hne ho
/-- each one of a list, as the loop goes on -/
theorem take_snoc (xs : List Int) {k : Nat} (h : k < xs.length) : xs.take (k + 1) = xs.take k ++ [xs.getD k 0] := by
  rw [List.take_succ_eq_append_getElem h]
  simp [h]
set_option maxHeartbeats 4000000 in
theorem seq1 (n : Nat) (hn : 1 ≤ n) (l Bq Br t : Nat) (p k : Nat) (hk : k < 32) (hp hg : Nat → Nat) (X : Nat → List Int) (ll : Nat) (J Jx : List Int → World → Prop) (W : World)
    (hJ : AbidesFrom W.heap.size J) (hY : ∀ pre x W1, J pre W1 → pre.length < (X k).length → YieldAt Fence.wide (n - 1) Tryz.prog l #[.int .i64 x] W1 fun e W' =>
      (e = .returned (.bool true) ∧ J (pre ++ [x]) W' ∧ KL t W1 W') ∨ (e = .returned (.bool false) ∧ Jx (pre ++ [x]) W'))
    (hq : W.cell? ⟨Bq, 0, none⟩ = some (.pointer (some ⟨p, 0, none⟩))) (hr : W.cell? ⟨Br, 0, none⟩ = some (.int .i64 (k : Int))) (hQ : Que W p hp hg X ll)
    (htl : t < W.heap.size) (v0 : Value) (ht : W.cell? ⟨t, 0, none⟩ = some v0) (hv0 : v0.ownBlock = none) (h0 : J [] W) :
    CallsIn Fence.wide n Tryz.prog 66 #[.func (.yield l) #[] #[], .pointer (some ⟨Bq, 0, none⟩), .pointer (some ⟨Br, 0, none⟩)] W fun e W' => (∃ v, e = .returned v) ∧
      ((∃ ys, ys = X k ∧ J ys W') ∨ (∃ pre, pre <+: X k ∧ Jx pre W')) := by
  have hkI : 0 ≤ (k : Int) ∧ (k : Int) ≤ 31 := by omega
  have hk32 : (k : Int) < 32 := by omega
  have hmx : Tryz.prog.follows .mixedOrders = true := by kernel_rfl
  have hp0 := hQ.row (r := 0) (by omega)
  have hpk := hQ.row hk
  obtain ⟨xs, hxs⟩ : ∃ xs, X k = xs := ⟨_, rfl⟩
  have hxl : xs.length ≤ 256 := by rw [← hxs]; exact (hQ.ring k hk).len
  have hL := list_any ((hQ.ring k hk).below (w' := W.drew) ((Below.refl _ W).drew))
  rw [hxs] at hY hL ⊢
  have hsz : W.drew.heap.size = W.heap.size := rfl
  rw [hsz] at hL
  have HKG : Hid (∀ w2, Row w2 W.heap.size xs → Below W.heap.size W.drew w2 → J [] w2 ∧ ∀ wr, KL t w2 wr → Row wr W.heap.size xs) := fun w2 hrow hb2 => by
    have hb3 : Below W.heap.size W w2 := ((Below.refl _ W).drew).trans hb2
    refine ⟨hJ [] W w2 none h0 ⟨hb3.os, hb3.tape, hb3.output, hb3.size, fun k hk _ => hb3.block k hk⟩ (fun r e => by cases e), fun wr hkl => hkl.row hrow (by omega) fun ⟨v, hv, hvb⟩ => ?_⟩
    rw [hb3.cell (p := ⟨t, 0, none⟩) htl, ht] at hv
    cases hv
    rw [hv0] at hvb
    cases hvb
  clear hQ hxs hJ h0 ht
  refine callsIn_of_wp Tryz.func66 rfl trivial ?_ rfl
  simp only [Tryz.ntmps66, List.size_toArray, List.length_cons, List.length_nil, Nat.reduceAdd, Nat.reduceSub, Array.replicate_succ, Array.replicate_zero, List.push_toArray, List.append_toArray, List.nil_append, List.cons_append]
  gi_wp2_with (refine ⟨trivial, ?_⟩; first
      | (gi_at_call 27; refine (callsIn_wide.2 (qthere_yes hp0)).mono ?_; rintro e w' ⟨rfl, rfl⟩)
      | (gi_at_call 58; refine (callsIn_wide.2 (isRank_yes _ _ hkI)).mono ?_; rintro e w' ⟨rfl, rfl⟩))
  have hq1 : W.drew.cell? ⟨Bq, 0, none⟩ = some (.pointer (some ⟨p, 0, none⟩)) := hq
  have hr1 : W.drew.cell? ⟨Br, 0, none⟩ = some (.int .i64 (k : Int)) := hr
  have hpk1 : W.drew.cell? ⟨p, 0 + k, none⟩ = some (.pointer (some ⟨hp k, 0, none⟩)) := by rw [Nat.zero_add]; exact hpk
  have hpk2 : W.drew.cell? ⟨p, k, none⟩ = some (.pointer (some ⟨hp k, 0, none⟩)) := hpk
  refine wpIn_region_any hmx ?_
  refine wpAnyIn_take (i := 8) (v := ?vq1) rfl rfl (by kernel_rfl) (by kernel_rfl) (by kernel_rfl) (fun _ _ _ h => h) ⟨Or.inl ⟨by rfl, ?hyq1⟩, fun _ => rfl⟩ ?restq1
  case hyq1 => (intro w; go_simp; try with_reducible rfl)
  refine wpAnyIn_ready (rs := [0, 1]) (by kernel_rfl) (by simp) ?_
  refine AllReadyIn.cons rfl (fun K hK => ?_) ?_
  · go_simp
    refine hK _ _ ?_
    clear hK K
    refine wpAnyIn_take (i := 2) (v := ?vq2) rfl rfl (by kernel_rfl) (by kernel_rfl) (by kernel_rfl) (fun _ _ _ h => h) ⟨Or.inl ⟨by rfl, ?hyq2⟩, fun _ => rfl⟩ ?restq2
    case hyq2 => (intro w; go_simp; try with_reducible rfl)
    refine wpAnyIn_take (i := 3) (v := ?vq3) rfl rfl (by kernel_rfl) (by kernel_rfl) (by kernel_rfl) (fun _ _ _ h => h) ⟨Or.inl ⟨by rfl, ?hyq3⟩, fun _ => rfl⟩ ?restq3
    case hyq3 => (intro w; go_simp; try with_reducible rfl)
    refine wpAnyIn_ready (rs := [1]) (by kernel_rfl) (by simp) ?_
    refine AllReadyIn.cons rfl (fun K hK => ?_) AllReadyIn.nil
    go_simp
    refine hK _ _ ?_
    clear hK K
    refine wpAnyIn_take (i := 4) (v := ?vq4) rfl rfl (by kernel_rfl) (by kernel_rfl) (by kernel_rfl) (fun _ _ _ h => h) ⟨Or.inl ⟨by rfl, ?hyq4⟩, fun _ => rfl⟩ ?restq4
    case hyq4 => (intro w; go_simp; try with_reducible rfl)
    refine wpAnyIn_ready (rs := [5]) (by kernel_rfl) (by simp) ?_
    refine AllReadyIn.cons rfl (fun K hK => ?_) AllReadyIn.nil
    go_simp
    refine hK _ _ ?_
    clear hK K
    refine wpAnyIn_ready (rs := [6]) (by kernel_rfl) (by simp) ?_
    refine AllReadyIn.cons rfl (fun K hK => ?_) AllReadyIn.nil
    go_simp; refine ⟨trivial, ?_⟩; gi_at_call 61; refine (callsIn_wide.2 hL).mono ?_; rintro e w2 ⟨rfl, hrow, hb2⟩; refine hK _ _ ?_; clear hK K
    refine wpAnyIn_take (i := 7) (v := ?vq5) rfl rfl (by kernel_rfl) (by kernel_rfl) (by kernel_rfl) (fun _ _ _ h => h) ⟨Or.inl ⟨by rfl, ?hyq5⟩, fun _ => rfl⟩ ?restq5
    case hyq5 => (intro w; go_simp; try with_reducible rfl)
    refine wpAnyIn_done (by kernel_rfl) ?_ _
    obtain ⟨hJ2, hKR⟩ := HKG.out w2 hrow hb2
    have HKR : Hid (∀ wr, KL t w2 wr → Row wr W.heap.size xs) := hKR
    clear hrow hKR HKG hb2 hL hq1 hr1 hpk1 hpk2 hpk hp0 hq hr hkI hk32
    obtain ⟨G, hG⟩ : ∃ G, W.heap.size = G := ⟨_, rfl⟩
    rw [hG] at HKR
    simp only [hG]
    clear hG hsz htl
    obtain ⟨m, hm⟩ : ∃ m, xs.length = m := ⟨_, rfl⟩
    rw [hm] at hxl hY
    simp only [hm]
    have HM : Hid (xs.length = m) := hm
    clear hm
    go_simp
    gi_wp2
    gi_loopw [22] (fun s wr => ∃ i : Nat, s = .int .i64 (i : Int) ∧ i ≤ m ∧ Hid (J (xs.take i) wr) ∧ Hid (KL t w2 wr))
      (fun s wr => match s with | .int _ i => m - i.toNat | _ => 0)
    case atStart =>
      exact ⟨0, rfl, by omega, by rw [List.take_zero]; exact hJ2, KL.refl _ _⟩
    case round =>
      obtain ⟨i, rfl, hi, HJ, HK⟩ := hrel
      by_cases him : i = m
      · have hlt : ¬ ((i : Int) < m) := by omega
        gi_wp2
        go_end0
        refine ⟨⟨_, rfl⟩, .inl ?_⟩
        have := HJ.out
        rw [him, List.take_of_length_le (by rw [HM.out]; exact Nat.le_refl _)] at this
        first | exact this | exact ⟨_, rfl, this⟩
      · have hil : i < m := by omega
        have hlt : (i : Int) < m := by omega
        have c1 := (HKR.out wr HK.out).cell i (by rw [HM.out]; exact hil)
        have hwk : IntKind.i64.wrap ((i : Int) + 1) = (i : Int) + 1 := by rw [IntKind.wrap_i64]; omega
        obtain ⟨fn, tmps, assign, body, hy, hR⟩ := hY _ (xs.getD i 0) wr HJ.out (by rw [List.length_take, HM.out]; omega)
        rw [← take_snoc xs (by rw [HM.out]; exact hil)] at hR
        generalize xs.getD i 0 = x at *
        gi_wp2
        refine hR.mono ?_
        rintro e W3 (⟨rfl, hJ3, hk3⟩ | ⟨rfl, hJx3⟩)
        · gi_wp2
          go_roundw
          case rel => exact ⟨i + 1, by go_num, by omega, hJ3, HK.out.trans hk3⟩
          case measure => simp; omega
        · gi_wp2
          refine bodyPost_ret (results_none rfl _ _ _) rfl ?_
          exact ⟨⟨_, rfl⟩, .inr ⟨_, List.take_prefix _ _, hJx3⟩⟩
  refine AllReadyIn.cons rfl (fun K hK => ?_) AllReadyIn.nil
  go_simp
  refine hK _ _ ?_
  clear hK K
  refine wpAnyIn_ready (rs := [0]) (by kernel_rfl) (by simp) ?_
  refine AllReadyIn.cons rfl (fun K hK => ?_) AllReadyIn.nil
  go_simp
  refine hK _ _ ?_
  clear hK K
  refine wpAnyIn_take (i := 2) (v := ?vq6) rfl rfl (by kernel_rfl) (by kernel_rfl) (by kernel_rfl) (fun _ _ _ h => h) ⟨Or.inl ⟨by rfl, ?hyq6⟩, fun _ => rfl⟩ ?restq6
  case hyq6 => (intro w; go_simp; try with_reducible rfl)
  refine wpAnyIn_take (i := 3) (v := ?vq7) rfl rfl (by kernel_rfl) (by kernel_rfl) (by kernel_rfl) (fun _ _ _ h => h) ⟨Or.inl ⟨by rfl, ?hyq7⟩, fun _ => rfl⟩ ?restq7
  case hyq7 => (intro w; go_simp; try with_reducible rfl)
  refine wpAnyIn_take (i := 4) (v := ?vq8) rfl rfl (by kernel_rfl) (by kernel_rfl) (by kernel_rfl) (fun _ _ _ h => h) ⟨Or.inl ⟨by rfl, ?hyq8⟩, fun _ => rfl⟩ ?restq8
  case hyq8 => (intro w; go_simp; try with_reducible rfl)
  refine wpAnyIn_ready (rs := [5]) (by kernel_rfl) (by simp) ?_
  refine AllReadyIn.cons rfl (fun K hK => ?_) AllReadyIn.nil
  go_simp
  refine hK _ _ ?_
  clear hK K
  refine wpAnyIn_ready (rs := [6]) (by kernel_rfl) (by simp) ?_
  refine AllReadyIn.cons rfl (fun K hK => ?_) AllReadyIn.nil
  go_simp; refine ⟨trivial, ?_⟩; gi_at_call 61; refine (callsIn_wide.2 hL).mono ?_; rintro e w2 ⟨rfl, hrow, hb2⟩; refine hK _ _ ?_; clear hK K
  refine wpAnyIn_take (i := 7) (v := ?vq9) rfl rfl (by kernel_rfl) (by kernel_rfl) (by kernel_rfl) (fun _ _ _ h => h) ⟨Or.inl ⟨by rfl, ?hyq9⟩, fun _ => rfl⟩ ?restq9
  case hyq9 => (intro w; go_simp; try with_reducible rfl)
  refine wpAnyIn_done (by kernel_rfl) ?_ _
  obtain ⟨hJ2, hKR⟩ := HKG.out w2 hrow hb2
  have HKR : Hid (∀ wr, KL t w2 wr → Row wr W.heap.size xs) := hKR
  clear hrow hKR HKG hb2 hL hq1 hr1 hpk1 hpk2 hpk hp0 hq hr hkI hk32
  obtain ⟨G, hG⟩ : ∃ G, W.heap.size = G := ⟨_, rfl⟩
  rw [hG] at HKR
  simp only [hG]
  clear hG hsz htl
  obtain ⟨m, hm⟩ : ∃ m, xs.length = m := ⟨_, rfl⟩
  rw [hm] at hxl hY
  simp only [hm]
  have HM : Hid (xs.length = m) := hm
  clear hm
  go_simp
  gi_wp2
  gi_loopw [22] (fun s wr => ∃ i : Nat, s = .int .i64 (i : Int) ∧ i ≤ m ∧ Hid (J (xs.take i) wr) ∧ Hid (KL t w2 wr))
    (fun s wr => match s with | .int _ i => m - i.toNat | _ => 0)
  case atStart =>
    exact ⟨0, rfl, by omega, by rw [List.take_zero]; exact hJ2, KL.refl _ _⟩
  case round =>
    obtain ⟨i, rfl, hi, HJ, HK⟩ := hrel
    by_cases him : i = m
    · have hlt : ¬ ((i : Int) < m) := by omega
      gi_wp2
      go_end0
      refine ⟨⟨_, rfl⟩, .inl ?_⟩
      have := HJ.out
      rw [him, List.take_of_length_le (by rw [HM.out]; exact Nat.le_refl _)] at this
      first | exact this | exact ⟨_, rfl, this⟩
    · have hil : i < m := by omega
      have hlt : (i : Int) < m := by omega
      have c1 := (HKR.out wr HK.out).cell i (by rw [HM.out]; exact hil)
      have hwk : IntKind.i64.wrap ((i : Int) + 1) = (i : Int) + 1 := by rw [IntKind.wrap_i64]; omega
      obtain ⟨fn, tmps, assign, body, hy, hR⟩ := hY _ (xs.getD i 0) wr HJ.out (by rw [List.length_take, HM.out]; omega)
      rw [← take_snoc xs (by rw [HM.out]; exact hil)] at hR
      generalize xs.getD i 0 = x at *
      gi_wp2
      refine hR.mono ?_
      rintro e W3 (⟨rfl, hJ3, hk3⟩ | ⟨rfl, hJx3⟩)
      · gi_wp2
        go_roundw
        case rel => exact ⟨i + 1, by go_num, by omega, hJ3, HK.out.trans hk3⟩
        case measure => simp; omega
      · gi_wp2
        refine bodyPost_ret (results_none rfl _ _ _) rfl ?_
        exact ⟨⟨_, rfl⟩, .inr ⟨_, List.take_prefix _ _, hJx3⟩⟩
end Go.Proofs.YtjhpiecbolmleaaGreatDoor
