/- The function that a chain is ranged over by: each place, with the ticks that are left there. -/
import Derived.Test.YtciafjmljmeimaaDoorDIns
import Derived.RangeFuncBox
import Derived.RangeFuncLeaves
import Derived.RangeFuncCalls
import Derived.Shelf.Abstract
import Derived.Shelf.RegionOpen
import Derived.OwnWalkIn
import Derived.TacticsInMore
import Derived.LoopNIn
import Derived.LoopIn
import Derived.Maps.AppendAt
import Derived.Sort.QuietTacIn
namespace Go.Proofs.YtciafjmljmeimaaDoor
open Go Go.RowKit Go.Shelf
attribute [local go_sem] Oper.semAt_some
set_option maxRecDepth 100000
set_option linter.unusedVariables false
set_option linter.unusedSimpArgs false
/-- blocks that lie as they lay -/
def Kp (ks : List Nat) (W W' : World) : Prop := ∀ k, k ∈ ks → W'.heap[k]? = W.heap[k]?
theorem Kp.refl (ks : List Nat) (W : World) : Kp ks W W := fun _ _ => rfl
theorem Kp.trans {ks : List Nat} {X Y Z : World} (h : Kp ks X Y) (k : Kp ks Y Z) : Kp ks X Z := fun i hi => (k i hi).trans (h i hi)
theorem Kp.of {ks : List Nat} {W W' : World} {n : Nat} (h : Below n W W') (hk : ∀ k, k ∈ ks → k < n) : Kp ks W W' := fun k hi => h.block k (hk k hi)
theorem Kp.buts {ks l : List Nat} {W W' : World} (h : Buts l W W') (hk : ∀ k, k ∈ ks → k < W.heap.size ∧ k ∉ l) : Kp ks W W' := fun k hi => h.block k (hk k hi).1 (hk k hi).2
theorem kp_b {ks : List Nat} {w : World} (hk : ∀ k, k ∈ ks → k < w.heap.size) (W : World) (l : Nat) (o o' : Obj) (hl : w.heap.size ≤ l) (h : W.heap[l]? = some o) (_ : o.isCells = false) (_ : o.isWalk = false) : Kp ks W (W.putObj l o') :=
  fun k hi => (grownBy_putObj' W l o').block k (by have := (Array.getElem?_eq_some_iff.1 h).1; have := hk k hi; omega) (fun e => by
    have := hk k hi
    rw [Option.some.injEq] at e
    omega)
theorem Kp.cell {ks : List Nat} {W W' : World} (h : Kp ks W W') {k i : Nat} (hk : k ∈ ks) : W'.cell? ⟨k, i, none⟩ = W.cell? ⟨k, i, none⟩ := World.cell?_of_block (h k hk)
/-- what speaks of cells, and of what lies below, alone -/
theorem ownFrom_of {β : Type} {B : Nat} {I : β → World → Prop} (h : ∀ s W W', I s W → (∀ (k : Nat) (cs : Array Value) (t : TypeId) (f : Nat × Nat), W.heap[k]? = some (Obj.cells cs t f) → W'.heap[k]? = some (Obj.cells cs t f)) → (∀ n₀, n₀ ≤ B → n₀ ≤ W.heap.size → Below n₀ W W') → I s W') : OwnFrom B I := by
  intro s W W' row hs hg hr
  refine h s W W' hs (fun k cs t f hk => ?_) (fun n₀ hn hB => ⟨hg.os, hg.tape, hg.output, hg.size, fun k hk => hg.block k (by omega) (fun e => ?_)⟩)
  · rw [hg.block k (at_lt hk) (fun e => ?_)]
    · exact hk
    · obtain ⟨_, o, ho, hc⟩ := hr k e.symm
      rw [hk] at ho; cases ho; cases hc
  · have := (hr k e.symm).1
    omega
theorem keeps_drewN (W : World) : ∀ n, KeepsOthers W (W.drewN n)
  | 0 => KeepsOthers.refl W
  | n + 1 => ⟨(keeps_drewN W n).size, fun k o h ho => (keeps_drewN W n).same k o h ho⟩
theorem heap_drewN (W : World) : ∀ n, (W.drewN n).heap = W.heap
  | 0 => rfl
  | n + 1 => heap_drewN W n
theorem fin_snoc {m k : Nat} (hk : k < m) : (List.finRange m).take (k + 1) = (List.finRange m).take k ++ [⟨k, hk⟩] := by
  rw [List.take_succ_eq_append_getElem (by simpa using hk)]
  simp
theorem fin_len {m k : Nat} (hk : k ≤ m) : ((List.finRange m).take k).length = k := by simp; omega
set_option maxHeartbeats 1000000 in
theorem lefts_any (p : Nat) (w : World) :
    Calls Tryd.prog 75 #[.pointer (some ⟨p, 1, none⟩)] w fun e w' => e = .returned (.func (.func 80) #[] #[.pointer (some ⟨w.heap.size, 0, none⟩)]) ∧ w' = w.alloc (.cells #[.pointer (some ⟨p, 1, none⟩)] 131) := by
  go_enter Tryd.func75, Tryd.ntmps75
  go_wp2
  go_ret
  exact ⟨rfl, rfl⟩
set_option maxHeartbeats 2000000 in
theorem seq1 (n : Nat) (hn : 1 ≤ n) (l Bn p g m cap : Nat) (sp : Option Addr) (hsp : 0 < m → sp = some ⟨g, 0, none⟩) (hm : m ≤ 1000) (F bd : Nat → Int) (hF0 : F 0 = 0) (hF : ∀ k, k < m → IntKind.i64.wrap (F k + bd k) = F (k + 1)) (J Jx : List (Fin m) → World → Prop)
    (hY : ∀ pre (x : Fin m) W, J pre W → pre.length < m → YieldAt Fence.wide (n - 1) Tryd.prog l #[.int .i64 ((x.val : Nat) : Int), .int .i64 (F (x.val + 1))] W fun e W' =>
      (e = .returned (.bool true) ∧ J (pre ++ [x]) W' ∧ Kp [Bn, p, g] W W') ∨ (e = .returned (.bool false) ∧ Jx (pre ++ [x]) W'))
    (W : World) (hBn : W.cell? ⟨Bn, 0, none⟩ = some (.pointer (some ⟨p, 1, none⟩))) (hp : W.cell? ⟨p, 1, none⟩ = some (.slice sp m cap)) (hg : ∀ k, k < m → W.cell? ⟨g, k * 2 + 1, none⟩ = some (.int .i64 (bd k))) (h0 : J [] W) :
    CallsIn Fence.wide n Tryd.prog 80 #[.func (.yield l) #[] #[], .pointer (some ⟨Bn, 0, none⟩)] W fun e W' => (∃ v, e = .returned v) ∧
      ((∃ ys, ys = List.finRange m ∧ J ys W') ∨ (∃ pre, pre <+: List.finRange m ∧ Jx pre W')) := by
  refine callsIn_of_wp Tryd.func80 rfl trivial ?_ rfl
  simp only [Tryd.ntmps80, List.size_toArray, List.length_cons, List.length_nil, Nat.reduceAdd, Nat.reduceSub, Array.replicate_succ, Array.replicate_zero, List.push_toArray, List.append_toArray, List.nil_append, List.cons_append]
  gi_wp2
  gi_loopw [3, 10] (fun s t wr => ∃ k : Nat, s = .int .i64 (F k) ∧ t = .int .i64 (k : Int) ∧ k ≤ m ∧ Hid (J ((List.finRange m).take k) wr) ∧ Hid (Kp [Bn, p, g] W wr))
    (fun s t wr => match t with | .int _ k => m - k.toNat | _ => 0)
  case atStart =>
    exact ⟨0, by rw [hF0], rfl, by omega, h0, Kp.refl _ _⟩
  case round =>
    obtain ⟨k, rfl, rfl, hk, HJ, HK⟩ := hrel
    by_cases hkm : k = m
    · have hlt : ¬ ((k : Int) < m) := by omega
      gi_wp2
      go_end0
      refine ⟨⟨_, rfl⟩, .inl ?_⟩
      have := HJ.out
      rw [hkm, List.take_of_length_le (by simp)] at this
      first | exact this | exact ⟨_, rfl, this⟩
    · have hkl : k < m := by omega
      have hlt : (k : Int) < m := by omega
      have hsp' := hsp (by omega)
      subst hsp'
      have c1 := (HK.out.cell (k := Bn) (i := 0) (by simp)).trans hBn
      have c2 := (HK.out.cell (k := p) (i := 1) (by simp)).trans hp
      have c3 := (HK.out.cell (k := g) (i := k * 2 + 1) (by simp)).trans (hg k hkl)
      have hw := hF k hkl
      have hwk : IntKind.i64.wrap ((k : Int) + 1) = (k : Int) + 1 := by rw [IntKind.wrap_i64]; omega
      obtain ⟨fn, tmps, assign, body, hy, hR⟩ := hY _ ⟨k, hkl⟩ wr HJ.out (by rw [fin_len hk]; exact hkl)
      rw [← fin_snoc hkl] at hR
      dsimp only at hy
      gi_wp2
      refine hR.mono ?_
      rintro e W3 (⟨rfl, hJ3, hk3⟩ | ⟨rfl, hJx3⟩)
      · gi_wp2
        go_roundw
        case rel => exact ⟨k + 1, rfl, by go_num, by omega, hJ3, HK.out.trans hk3⟩
        case measure => simp; omega
      · gi_wp2
        refine bodyPost_ret (results_none rfl _ _ _) rfl ?_
        exact ⟨⟨_, rfl⟩, .inr ⟨_, List.take_prefix _ _, hJx3⟩⟩
theorem seq_stops (n : Nat) (hn : 1 ≤ n) (Bn p g m cap : Nat) (sp : Option Addr) (hsp : 0 < m → sp = some ⟨g, 0, none⟩) (hm : m ≤ 1000) (F bd : Nat → Int) (hF0 : F 0 = 0) (hF : ∀ k, k < m → IntKind.i64.wrap (F k + bd k) = F (k + 1)) (w : World)
    (hb1 : Bn < w.heap.size) (hb2 : p < w.heap.size) (hb3 : 0 < m → g < w.heap.size)
    (hBn : w.cell? ⟨Bn, 0, none⟩ = some (.pointer (some ⟨p, 1, none⟩))) (hp : w.cell? ⟨p, 1, none⟩ = some (.slice sp m cap)) (hg : ∀ k, k < m → w.cell? ⟨g, k * 2 + 1, none⟩ = some (.int .i64 (bd k))) :
    SeqStopsK Fence.wide n Tryd.prog 80 #[.pointer (some ⟨Bn, 0, none⟩)] (fun x : Fin m => #[Value.int .i64 ((x.val : Nat) : Int), Value.int .i64 (F (x.val + 1))]) (Kp [Bn, p, g]) (fun ys => ys = List.finRange m) (fun pre => pre <+: List.finRange m) m w := fun l J Jx W hW _ _ hY h0 =>
  seq1 n hn l Bn p g m cap sp hsp hm F bd hF0 hF J Jx hY W ((hW.cell (p := ⟨Bn, 0, none⟩) hb1).trans hBn) ((hW.cell (p := ⟨p, 1, none⟩) hb2).trans hp) (fun k hk => (hW.cell (p := ⟨g, k * 2 + 1, none⟩) (hb3 (by omega))).trans (hg k hk)) h0
/-- operations that defer nothing run in a round as elsewhere -/
def NoDefer (ops : Array Oper) : Prop := ∀ (i : Nat) (o : Oper), ops[i]? = some o → ∀ c, o.op ≠ .defer c
theorem oper_round {l n : Nat} {P : Program} {o : Oper} {a : Act} {w : World} {K K' : Act → World → Prop} {Q : Exit → Act → World → Prop} (hd : ∀ c, o.op ≠ .defer c) (hk : ∀ a w, K a w → K' a w) (h : o.wpIn Fence.wide n P a w K Q) : o.wpIn (Fence.wide.inRound l) n P a w K' Q := by
  have h' : o.wpIn Fence.wide n P a w K' Q := by
    have h1 : wpOpIn Fence.wide n P #[{ o with guard := none }] Q 0 K a w := by
      simp only [wpOpIn, List.getElem?_toArray, List.getElem?_cons_zero]
      rw [if_pos (by simp [Region.wanted])]
      exact h
    have h2 := wpOpIn_mono hk h1
    simp only [wpOpIn, List.getElem?_toArray, List.getElem?_cons_zero] at h2
    rw [if_pos (by simp [Region.wanted])] at h2
    exact h2
  refine ⟨h'.1, ?_⟩
  have h2 := h'.2
  rw [show (Fence.wide.inRound l).round = some l from rfl, Oper.semAt_some l _ _ hd]
  exact h2
theorem wpAnyIn_round {l n : Nat} {P : Program} {md : Region.Mode} {ops : Array Oper} {Q : Exit → Act → World → Prop} (hd : NoDefer ops) : ∀ (fuel : Nat) (listed : Array Bool) (a : Act) (w : World), wpAnyIn Fence.wide n P md ops Q fuel listed a w → wpAnyIn (Fence.wide.inRound l) n P md ops Q fuel listed a w
  | 0, _, _, _, h => h
  | fuel + 1, listed, a, w, h => by
    refine ⟨h.1, fun i hi => ?_⟩
    have h2 := h.2 i hi
    unfold wpOpIn at h2 ⊢
    cases ho : ops[i]? with
    | none => rw [ho] at h2; exact wpAnyIn_round hd fuel _ _ _ h2
    | some o =>
      rw [ho] at h2
      simp only at h2 ⊢
      split at h2
      · rename_i hw
        rw [if_pos hw]
        exact oper_round (hd i o ho) (fun a w => wpAnyIn_round hd fuel _ a w) h2
      · rename_i hw
        rw [if_neg hw]
        exact ⟨h2.1, wpAnyIn_round hd fuel _ _ _ h2.2⟩
/-- a region that only reads, in a round: walked once -/
theorem region_quiet_round {l n id : Nat} {P : Program} {Q : Exit → Act → World → Prop} {a : Act} {w : World} {L : List Oper} (hd : NoDefer L.toArray) (hm : P.follows .mixedOrders = true) (hB : Region.lexB .any L.toArray = true)
    (h : wpQuietIn Fence.wide n P L.toArray (fun w' => ∃ n, w' = w.drewN n) (fun a' => ∀ w', (∃ n, w' = w.drewN n) → Q .normal a' w') L a) : (Code.region id L.toArray true).wpIn (Fence.wide.inRound l) n P Q a w := by
  simp only [Region.lexB, Bool.and_eq_true] at hB
  refine wpIn_region_any hm (wpAnyIn_round hd _ _ _ _ (wpAnyIn_of_quiet (C := fun w' => ∃ n, w' = w.drewN n) (Q := fun a' => ∀ w', (∃ n, w' = w.drewN n) → Q .normal a' w') rfl (fun _ w' hw' h => h w' hw') _ _ _ _ ⟨1, rfl⟩ ?_))
  have := wpAnyQIn_lex (F := Fence.wide) (n := n) (C := fun w' => ∃ n, w' = w.drewN n) (md := .any) hB.1 L 0 (Array.replicate L.toArray.size false) a (by simp) (by simpa using hB.2) h
  simpa using this
/-- a region that draws its order, in a round: its orders, as elsewhere -/
theorem region_round {l n id : Nat} {P : Program} {Q : Exit → Act → World → Prop} {a : Act} {w : World} {ops : Array Oper} (hd : NoDefer ops) (hm : P.follows .mixedOrders = true)
    (h : wpAnyIn Fence.wide n P .any ops Q ops.size (Array.replicate ops.size false) a w.drew) : (Code.region id ops true).wpIn (Fence.wide.inRound l) n P Q a w :=
  wpIn_region_any hm (wpAnyIn_round hd _ _ _ _ h)
end Go.Proofs.YtciafjmljmeimaaDoor
