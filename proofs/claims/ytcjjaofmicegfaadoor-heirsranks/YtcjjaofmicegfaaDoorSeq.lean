/- The function that a chain is ranged over by: each one, the first one first. -/
import Derived.Test.YtcjjaofmicegfaaDoorRank
import Derived.RangeFuncBox
import Derived.RangeFuncLeaves
import Derived.RangeFuncCalls
import Derived.Shelf.Abstract
import Derived.Shelf.RegionOpen
import Derived.OwnWalkIn
import Derived.TacticsInMore
import Derived.LoopNIn
import Derived.LoopIn
import Derived.Maps.AppendAt
import Derived.Sort.QuietTacIn
namespace Go.Proofs.YtcjjaofmicegfaaDoor
open Go Go.RowKit Go.Shelf
attribute [local go_sem] Oper.semAt_some
set_option maxRecDepth 100000
set_option linter.unusedVariables false
set_option linter.unusedSimpArgs false
/-- blocks that lie as they lay -/
def Kp (ks : List Nat) (W W' : World) : Prop := ∀ k, k ∈ ks → W'.heap[k]? = W.heap[k]?
theorem Kp.refl (ks : List Nat) (W : World) : Kp ks W W := fun _ _ => rfl
theorem Kp.trans {ks : List Nat} {X Y Z : World} (h : Kp ks X Y) (k : Kp ks Y Z) : Kp ks X Z := fun i hi => (k i hi).trans (h i hi)
theorem Kp.of {ks : List Nat} {W W' : World} {n : Nat} (h : Below n W W') (hk : ∀ k, k ∈ ks → k < n) : Kp ks W W' := fun k hi => h.block k (hk k hi)
theorem Kp.buts {ks l : List Nat} {W W' : World} (h : Buts l W W') (hk : ∀ k, k ∈ ks → k < W.heap.size ∧ k ∉ l) : Kp ks W W' := fun k hi => h.block k (hk k hi).1 (hk k hi).2
theorem kp_b {ks : List Nat} {w : World} (hk : ∀ k, k ∈ ks → k < w.heap.size) (W : World) (l : Nat) (o o' : Obj) (hl : w.heap.size ≤ l) (h : W.heap[l]? = some o) (_ : o.isCells = false) (_ : o.isWalk = false) : Kp ks W (W.putObj l o') :=
  fun k hi => (grownBy_putObj' W l o').block k (by have := (Array.getElem?_eq_some_iff.1 h).1; have := hk k hi; omega) (fun e => by
    have := hk k hi
    rw [Option.some.injEq] at e
    omega)
theorem Kp.cell {ks : List Nat} {W W' : World} (h : Kp ks W W') {k i : Nat} (hk : k ∈ ks) : W'.cell? ⟨k, i, none⟩ = W.cell? ⟨k, i, none⟩ := World.cell?_of_block (h k hk)
/-- what speaks of cells, and of what lies below, alone -/
theorem ownFrom_of {β : Type} {B : Nat} {I : β → World → Prop} (h : ∀ s W W', I s W → (∀ (k : Nat) (cs : Array Value) (t : TypeId) (f : Nat × Nat), W.heap[k]? = some (Obj.cells cs t f) → W'.heap[k]? = some (Obj.cells cs t f)) → (∀ n₀, n₀ ≤ B → n₀ ≤ W.heap.size → Below n₀ W W') → I s W') : OwnFrom B I := by
  intro s W W' row hs hg hr
  refine h s W W' hs (fun k cs t f hk => ?_) (fun n₀ hn hB => ⟨hg.os, hg.tape, hg.output, hg.size, fun k hk => hg.block k (by omega) (fun e => ?_)⟩)
  · rw [hg.block k (at_lt hk) (fun e => ?_)]
    · exact hk
    · obtain ⟨_, o, ho, hc⟩ := hr k e.symm
      rw [hk] at ho; cases ho; cases hc
  · have := (hr k e.symm).1
    omega
theorem keeps_drewN (W : World) : ∀ n, KeepsOthers W (W.drewN n)
  | 0 => KeepsOthers.refl W
  | n + 1 => ⟨(keeps_drewN W n).size, fun k o h ho => (keeps_drewN W n).same k o h ho⟩
theorem heap_drewN (W : World) : ∀ n, (W.drewN n).heap = W.heap
  | 0 => rfl
  | n + 1 => heap_drewN W n
/-- those of a chain, so many at most -/
def chl (ws : List Int) (a : Int) : Nat → List Int
  | 0 => []
  | k + 1 => if a < 0 then [] else a :: chl ws (nx ws a) k
theorem chl_len (ws : List Int) : ∀ (k : Nat) (a : Int), (chl ws a k).length ≤ k
  | 0, a => by simp [chl]
  | k + 1, a => by
    unfold chl
    split
    · simp
    · have := chl_len ws k (nx ws a); simp; omega
theorem ch_next (ws : List Int) (a : Int) : ∀ i, ch ws a (i + 1) = ch ws (nx ws a) i
  | 0 => rfl
  | i + 1 => by show nx ws (ch ws a (i + 1)) = nx ws _; rw [ch_next ws a i]
theorem chl_at (ws : List Int) : ∀ (k : Nat) (a : Int) (i : Nat), i < k → 0 ≤ ch ws a i → i < (chl ws a k).length ∧ (chl ws a k).getD i 0 = ch ws a i
  | 0, a, i, h, _ => by omega
  | k + 1, a, i, h, h0 => by
    have ha : ¬ (a < 0) := fun h1 => by have := ch_neg ws h1 i; omega
    unfold chl
    rw [if_neg ha]
    cases i with
    | zero => exact ⟨by simp, rfl⟩
    | succ i =>
      rw [ch_next] at h0 ⊢
      obtain ⟨h1, h2⟩ := chl_at ws k (nx ws a) i (by omega) h0
      exact ⟨by simpa using h1, by simpa using h2⟩
theorem chl_end (ws : List Int) : ∀ (k : Nat) (a : Int) (i : Nat), ch ws a i < 0 → (chl ws a k).length ≤ i
  | 0, a, i, _ => by simp [chl]
  | k + 1, a, i, h => by
    unfold chl
    split
    · simp
    · cases i with
      | zero => exact absurd h (by assumption)
      | succ i =>
        rw [ch_next] at h
        have := chl_end ws k (nx ws a) i h
        simpa using this
theorem chl_mem (ws : List Int) : ∀ (k : Nat) (a x : Int), 0 ≤ x → (x ∈ chl ws a k ↔ ∃ j, j < k ∧ ch ws a j = x)
  | 0, a, x, _ => by simp [chl]
  | k + 1, a, x, h => by
    unfold chl
    split
    · rename_i ha
      simp only [List.not_mem_nil, false_iff]
      rintro ⟨j, _, e⟩
      have := ch_neg ws ha j
      omega
    · rw [List.mem_cons, chl_mem ws k (nx ws a) x h]
      constructor
      · rintro (rfl | ⟨j, hj, e⟩)
        · exact ⟨0, by omega, rfl⟩
        · exact ⟨j + 1, by omega, by rw [ch_next]; exact e⟩
      · rintro ⟨j, hj, e⟩
        cases j with
        | zero => exact Or.inl e.symm
        | succ j => rw [ch_next] at e; exact Or.inr ⟨j, by omega, e⟩
theorem take_snoc (xs : List Int) {k : Nat} (h : k < xs.length) : xs.take (k + 1) = xs.take k ++ [xs.getD k 0] := by
  rw [List.take_succ_eq_append_getElem h]
  simp [h]
set_option maxHeartbeats 1000000 in
theorem chain_any (sq : Option Addr) (n c : Nat) (a : Int) (w : World) :
    Calls Tryd.prog 43 #[.slice sq n c, .int .i64 a] w fun e w' => e = .returned (.func (.func 60) #[] #[.pointer (some ⟨w.heap.size + 1, 0, none⟩), .pointer (some ⟨w.heap.size, 0, none⟩)]) ∧ w' = (w.alloc (.cells #[.slice sq n c] 22)).alloc (.cells #[.int .i64 a] 3) := by
  go_enter Tryd.func43, Tryd.ntmps43
  go_wp2
  go_ret
  exact ⟨by simp, rfl⟩
set_option maxHeartbeats 2000000 in
theorem seq1 (N : Nat) (hN : 1 ≤ N) (l Bf Bw b o c : Nat) (sq : Option Addr) (ws : List Int) (hsp : 0 < ws.length → sq = some ⟨b, o, none⟩) (hm : ws.length ≤ 140737488355328) (hp : Plc ws) (a : Int) (ha : 0 ≤ a) (ha' : a < ws.length) (J Jx : List Int → World → Prop)
    (hY : ∀ pre (x : Int) W, J pre W → pre.length < ws.length → YieldAt Fence.wide (N - 1) Tryd.prog l #[.int .i64 x] W fun e W' =>
      (e = .returned (.bool true) ∧ J (pre ++ [x]) W' ∧ Kp [Bf, Bw, b] W W') ∨ (e = .returned (.bool false) ∧ Jx (pre ++ [x]) W'))
    (W : World) (hBf : W.cell? ⟨Bf, 0, none⟩ = some (.int .i64 a)) (hBw : W.cell? ⟨Bw, 0, none⟩ = some (.slice sq ws.length c)) (hg : ∀ k, k < ws.length → W.cell? ⟨b, o + k, none⟩ = some (.int .i64 (ws.getD k 0))) (h0 : J [] W) :
    CallsIn Fence.wide N Tryd.prog 60 #[.func (.yield l) #[] #[], .pointer (some ⟨Bf, 0, none⟩), .pointer (some ⟨Bw, 0, none⟩)] W fun e W' => (∃ v, e = .returned v) ∧
      ((∃ ys, ys = chl ws a ws.length ∧ J ys W') ∨ (∃ pre, pre <+: chl ws a ws.length ∧ Jx pre W')) := by
  obtain ⟨X, hX⟩ : ∃ X, chl ws a ws.length = X := ⟨_, rfl⟩
  have hXl : X.length ≤ ws.length := by rw [← hX]; exact chl_len _ _ _
  have HA : Hid (∀ i, i < ws.length → 0 ≤ ch ws a i → i < X.length ∧ X.getD i 0 = ch ws a i) := fun i hi h => by rw [← hX]; exact chl_at ws _ a i hi h
  have HE : Hid (∀ i, ch ws a i < 0 → X.length ≤ i) := fun i h => by rw [← hX]; exact chl_end ws _ a i h
  have HC : Hid (∀ i, -1 ≤ ch ws a i ∧ ch ws a i < ws.length) := ch_pl hp (by omega) ha'
  have HN : Hid (∀ i (k : Nat), ch ws a i = (k : Int) → ch ws a (i + 1) = ws.getD k 0) := fun i k e => by show nx ws _ = _; rw [e, nx_at]
  have HG : Hid (∀ k, k < ws.length → W.cell? ⟨b, o + k, none⟩ = some (.int .i64 (ws.getD k 0))) := hg
  have hc0 : ch ws a 0 = a := rfl
  rw [hX]
  clear hX hp ha ha' hg
  generalize ch ws a = f at *
  obtain ⟨n, hn⟩ : ∃ n, ws.length = n := ⟨_, rfl⟩
  rw [hn] at hsp hm hY hBw hXl HA HC HG
  clear hn
  refine callsIn_of_wp Tryd.func60 rfl trivial ?_ rfl
  simp only [Tryd.ntmps60, List.size_toArray, List.length_cons, List.length_nil, Nat.reduceAdd, Nat.reduceSub, Array.replicate_succ, Array.replicate_zero, List.push_toArray, List.append_toArray, List.nil_append, List.cons_append]
  gi_wp2
  gi_loopw [4, 8] (fun s t wr => ∃ k : Nat, s = .int .i64 (f k) ∧ t = .int .i64 (k : Int) ∧ k ≤ n ∧ k ≤ X.length ∧ Hid (J (X.take k) wr) ∧ Hid (Kp [Bf, Bw, b] W wr))
    (fun s t wr => match t with | .int _ k => n - k.toNat | _ => 0)
  case atStart =>
    exact ⟨0, by rw [hc0], rfl, by omega, by omega, h0, Kp.refl _ _⟩
  case round =>
    obtain ⟨k, rfl, rfl, hk, hkx, HJ, HK⟩ := hrel
    by_cases hkm : k = n
    · have hlt : ¬ ((k : Int) < n) := by omega
      gi_wp2
      go_end0
      refine ⟨⟨_, rfl⟩, .inl ?_⟩
      have := HJ.out
      rw [List.take_of_length_le (by omega)] at this
      first | exact this | exact ⟨_, rfl, this⟩
    · have hkl : k < n := by omega
      have hlt : (k : Int) < n := by omega
      have hcc := HC.out k
      have HAk := HA.out k hkl
      have HEk := HE.out k
      have HNk := HN.out k
      by_cases hneg : f k = -1
      · have HE2 : Hid (X.length ≤ k) := HEk (by omega)
        clear HAk HEk HNk hcc
        generalize f k = y at *
        subst hneg
        gi_wp2
        refine ⟨(fun f h => by cases h), ?_⟩
        gi_wp2
        refine bodyPost_ret (results_none rfl _ _ _) rfl ?_
        refine ⟨⟨_, rfl⟩, .inl ?_⟩
        have := HJ.out
        rw [List.take_of_length_le HE2.out] at this
        first | exact this | exact ⟨_, rfl, this⟩
      · obtain ⟨q, hq⟩ : ∃ q : Nat, f k = (q : Int) := ⟨(f k).toNat, by omega⟩
        obtain ⟨hx1, hx2⟩ := HAk (by omega)
        have HX1 : Hid (k < X.length) := hx1
        have HF1 : Hid (f (k + 1) = ws.getD q 0) := HNk q hq
        rw [hq] at hcc hx2
        obtain ⟨fn, tmps, assign, body, hy, hR⟩ := hY _ (X.getD k 0) wr HJ.out (by rw [List.length_take]; omega)
        rw [← take_snoc X hx1] at hR
        rw [hx2] at hy
        rw [hq]
        have hsp' := hsp (by omega)
        have c1 : W.cell? ⟨Bw, 0, none⟩ = some (.slice (some ⟨b, o, none⟩) n c) := by rw [hBw, hsp']
        have hqn : (q : Int) < n := hcc.2
        have hq0 : ¬ ((q : Int) < 0) := by omega
        have hqm : ((q : Int) == -1) = false := by simp
        have c3 := HG.out q (by omega)
        have hwk : IntKind.i64.wrap ((k : Int) + 1) = (k : Int) + 1 := by rw [IntKind.wrap_i64]; omega
        have HC1 : Hid (W.cell? ⟨Bw, 0, none⟩ = some (.slice (some ⟨b, o, none⟩) n c)) := c1
        have HC3 : Hid (W.cell? ⟨b, o + q, none⟩ = some (.int .i64 (ws.getD q 0))) := c3
        clear HAk HEk HNk hq hx2 hx1 hneg c1 c3 hsp'
        generalize ws.getD q 0 = y at *
        gi_wp2
        refine hR.mono ?_
        rintro e W3 (⟨rfl, hJ3, hk3⟩ | ⟨rfl, hJx3⟩)
        · have hk4 := HK.out.trans hk3
          have d1 := (hk4.cell (k := Bw) (i := 0) (by simp)).trans HC1.out
          have d3 := (hk4.cell (k := b) (i := o + q) (by simp)).trans HC3.out
          gi_wp2
          go_roundw
          case rel => exact ⟨k + 1, by rw [HF1.out], by go_num, by omega, by have := HX1.out; omega, hJ3, hk4⟩
          case measure => simp; omega
        · gi_wp2
          refine bodyPost_ret (results_none rfl _ _ _) rfl ?_
          exact ⟨⟨_, rfl⟩, .inr ⟨_, List.take_prefix _ _, hJx3⟩⟩
theorem seq_stops (N : Nat) (hN : 1 ≤ N) (Bf Bw b o c : Nat) (sq : Option Addr) (ws : List Int) (hsp : 0 < ws.length → sq = some ⟨b, o, none⟩) (hm : ws.length ≤ 140737488355328) (hp : Plc ws) (a : Int) (ha : 0 ≤ a) (ha' : a < ws.length) (w : World)
    (hb1 : Bf < w.heap.size) (hb2 : Bw < w.heap.size) (hb3 : b < w.heap.size)
    (hBf : w.cell? ⟨Bf, 0, none⟩ = some (.int .i64 a)) (hBw : w.cell? ⟨Bw, 0, none⟩ = some (.slice sq ws.length c)) (hg : ∀ k, k < ws.length → w.cell? ⟨b, o + k, none⟩ = some (.int .i64 (ws.getD k 0))) :
    SeqStopsK Fence.wide N Tryd.prog 60 #[.pointer (some ⟨Bf, 0, none⟩), .pointer (some ⟨Bw, 0, none⟩)] (fun x : Int => #[Value.int .i64 x]) (Kp [Bf, Bw, b]) (fun ys => ys = chl ws a ws.length) (fun pre => pre <+: chl ws a ws.length) ws.length w := fun l J Jx W hW _ _ hY h0 =>
  seq1 N hN l Bf Bw b o c sq ws hsp hm hp a ha ha' J Jx hY W ((hW.cell (p := ⟨Bf, 0, none⟩) hb1).trans hBf) ((hW.cell (p := ⟨Bw, 0, none⟩) hb2).trans hBw) (fun k hk => (hW.cell (p := ⟨b, o + k, none⟩) hb3).trans (hg k hk)) h0
end Go.Proofs.YtcjjaofmicegfaaDoor
