/- A core in memory: its registers, where it is, its region, its code, its console, the map of what is done; what stays as it was. No law of the program itself. -/
import Derived.Test.YtomccgodfimaiaaGreatDoorChecks
import Derived.Test.YtomccgodfimaiaaGreatDoorRnReg
import Derived.Test.YtomccgodfimaiaaGreatDoorUnDo
import Derived.ArgAppend
import Derived.Recover
import Derived.Laws.Pointers
namespace Go.Proofs.YtomccgodfimaiaaGreatDoor
set_option linter.all false
open Go Go.RowKit
set_option maxRecDepth 100000
set_option linter.unusedVariables false
theorem Buts.drew {l : List Nat} {a b : World} (h : Buts l a b) : Buts l a b.drew := ⟨h.os, h.tape, h.output, h.size, h.block⟩
theorem Buts.of_but {g : Nat} {w w' : World} (h : Rn.But g w w') : Buts [g] w w' :=
  ⟨h.os, h.tape, h.output, h.size, fun k hk hg => h.block k hk (by simpa using hg)⟩
/-- a slice of bytes that its owner alone writes: nothing, or a part of a row -/
def Part (w : World) (v : Value) (xs : List Int) : Prop :=
  (v = .slice none 0 0 ∧ xs = []) ∨ ∃ b off cap cur, v = .slice (some ⟨b, off, none⟩) xs.length cap ∧ w.heap[b]? = some (.cells cur 5 (0, 0)) ∧ xs.length ≤ cap ∧ off + cap ≤ cur.size ∧ ∀ i, i < xs.length → cur[off + i]? = some (.int .u8 (xs.getD i 0))
theorem Part.own {B : Nat} {w : World} {v : Value} {xs : List Int} (h : w.ownsRow B 5 1 v xs.length (byt xs)) : Part w v xs := by
  rcases h.2 with ⟨rfl, h0⟩ | ⟨g, cap, cur, rfl, hg, hh, hc, hm, hs, ht⟩
  · exact Or.inl ⟨rfl, List.eq_nil_of_length_eq_zero h0⟩
  · refine Or.inr ⟨g, 0, cap, cur, rfl, hh, hc, by omega, fun i hi => ?_⟩
    have : (byt xs)[i]? = some (.int .u8 (xs.getD i 0)) := byt_at xs i hi
    rw [← ht, List.getElem?_take, if_pos (by omega)] at this
    simpa using this
theorem Part.lt {w : World} {v : Value} {xs : List Int} (h : Part w v xs) {g : Nat} (hg : v.ownBlock = some g) : g < w.heap.size ∧ ∃ cur, w.heap[g]? = some (.cells cur 5 (0, 0)) := by
  rcases h with ⟨rfl, _⟩ | ⟨b, off, cap, cur, rfl, hh, r⟩
  · simp [Value.ownBlock] at hg
  · obtain rfl : b = g := by simpa [Value.ownBlock] using hg
    exact ⟨at_lt hh, cur, hh⟩
theorem Part.buts {w w' : World} {v : Value} {xs : List Int} {l : List Nat} (h : Part w v xs) (hb : Buts l w w') (hl : ∀ g, v.ownBlock = some g → g ∉ l) : Part w' v xs := by
  have hlt := @Part.lt w v xs h
  rcases h with h | ⟨b, off, cap, cur, rfl, hh, r⟩
  · exact Or.inl h
  · exact Or.inr ⟨b, off, cap, cur, rfl, by rw [hb.block b (hlt rfl).1 (hl b rfl)]; exact hh, r⟩
theorem Part.src {w : World} {v : Value} {xs : List Int} (h : Part w v xs) : ∃ sp cap, v = .slice sp xs.length cap ∧ Src w sp xs := by
  rcases h with ⟨rfl, rfl⟩ | ⟨b, off, cap, cur, rfl, hh, hc, hs, hx⟩
  · exact ⟨none, 0, rfl, fun h => by simp at h⟩
  · exact ⟨_, cap, rfl, fun _ => ⟨b, off, rfl, fun i hi => by rw [cell_of hh]; exact hx i hi⟩⟩
/-- the last ones of such a slice -/
theorem Part.drop {w : World} {b off cap m : Nat} {xs : List Int} (h : Part w (.slice (some ⟨b, off, none⟩) m cap) xs) (k : Nat) (hk : k < xs.length) :
    Part w (.slice (some ⟨b, off + k, none⟩) (m - k) (cap - k)) (xs.drop k) := by
  rcases h with ⟨h, _⟩ | ⟨b', off', cap', cur, e, hh, hc, hs, hx⟩
  · cases h
  · simp only [Value.slice.injEq, Option.some.injEq, Addr.mk.injEq, and_true] at e
    obtain ⟨⟨rfl, rfl⟩, rfl, rfl⟩ := e
    refine Or.inr ⟨b, off + k, cap - k, cur, by simp, hh, by simp; omega, by omega, fun i hi => ?_⟩
    have hi' : k + i < xs.length := by simp at hi; omega
    rw [Nat.add_assoc, hx (k + i) hi']
    simp
theorem getD_app1 (xs : List Int) (z : Int) (i : Nat) : (xs ++ [z]).getD i 0 = if i < xs.length then xs.getD i 0 else if i = xs.length then z else 0 := by
  simp only [List.getD_eq_getElem?_getD, List.getElem?_append]
  by_cases h : i < xs.length
  · simp [h]
  · rw [if_neg h, if_neg h]
    by_cases e : i = xs.length
    · subst e; simp
    · rw [if_neg e, List.getElem?_eq_none (by simp; omega)]; rfl
theorem byt_news {w : World} {b off : Nat} {zs : List Int} (h : Src w (some ⟨b, off, none⟩) zs) : ∀ j u, (byt zs)[j]? = some u → w.cell? ((⟨b, off, none⟩ : Addr).add j) = some u := by
  intro j u hj
  have hjl : j < zs.length := by
    rcases Nat.lt_or_ge j zs.length with k | k
    · exact k
    · rw [List.getElem?_eq_none (by rw [byt_len]; exact k)] at hj; cases hj
  obtain ⟨b', off', e, hc⟩ := h (by omega)
  simp only [Option.some.injEq, Addr.mk.injEq, and_true] at e
  obtain ⟨rfl, rfl⟩ := e
  rw [add_none, hc j hjl]
  rw [byt_at zs j hjl] at hj
  exact hj
/-- one more behind such a slice: in its place, or in a new row -/
theorem Part.add {w : World} {v : Value} {xs : List Int} (h : Part w v xs) (hl : xs.length ≤ 2000) {b1 : Nat} {z : Int} (h1 : w.cell? ⟨b1, 0, none⟩ = some (.int .u8 z)) :
    ∃ v' w', (Builtin.append_ #[22, 22] 22 #[v, .slice (some ⟨b1, 0, none⟩) 1 1]).run Tryz.prog w = .ok v' w' ∧ Part w' v' (xs ++ [z]) ∧ Buts v.ownBlock.toList w w' ∧ (∀ g, v'.ownBlock = some g → v.ownBlock = some g ∨ w.heap.size ≤ g) ∧ ∃ b off cap, v' = .slice (some ⟨b, off, none⟩) (xs.length + 1) cap := by
  obtain ⟨i, hi, hz, hs, hby⟩ := info_parts infoB
  have hnews : ∀ j u, ([.int .u8 z] : List Value)[j]? = some u → w.cell? ((⟨b1, 0, none⟩ : Addr).add j) = some u := by
    intro j u hj
    rcases j with _ | j
    · simp only [List.getElem?_cons_zero] at hj
      rw [← hj]; exact h1
    · simp at hj
  have hone : ∀ u ∈ ([.int .u8 z] : List Value), u.oneCell' = true := by intro u hu; rw [List.mem_singleton] at hu; subst hu; rfl
  rcases h with ⟨rfl, rfl⟩ | ⟨b, off, cap, cur, rfl, hh, hc, hsz, hx⟩
  · obtain ⟨v', w', hr, ho, hg, _⟩ := run_append_own (P := Tryz.prog) w w.heap.size 22 22 5 i (.int .u8 0) 1 1 Tryz.underlying22 hi hz hs hby rfl (by decide) (.slice none 0 0) 0 [] (World.ownsRow_nil _ _ _ _) ⟨b1, 0, none⟩ 1 1 [.int .u8 z] rfl hnews hone (by decide) (by decide) (Nat.le_refl _)
    have hsp : ∃ g cap, v' = .slice (some ⟨g, 0, none⟩) 1 cap := by
      rcases ho.2 with ⟨_, h0⟩ | ⟨g, cap, cur, rfl, _⟩
      · omega
      · exact ⟨g, cap, rfl⟩
    obtain ⟨g', c', rfl⟩ := hsp
    refine ⟨_, w', hr, Part.own (B := w.heap.size) (xs := [z]) ho, by simpa [Value.ownBlock] using Buts.grown hg, fun g hg' => Or.inr (ho.lt g hg').1, g', 0, c', rfl⟩
  · by_cases hroom : xs.length + 1 ≤ cap
    · have hr := run_append_room_cells (P := Tryz.prog) w 22 22 5 i Tryz.underlying22 hi b off xs.length cap ⟨b1, 0, none⟩ 1 1 [.int .u8 z] (by rw [hs]; rfl) hnews hone hroom (fun j hj => by
        have hj0 : j = 0 := by simpa using hj
        subst hj0
        rw [cell_of hh, hs]
        simp; omega) (fun j hj => by simp [World.frozen?, hh])
      rw [hs, Nat.mul_one] at hr
      refine ⟨_, _, hr, Or.inr ⟨b, off, cap, cur.setIfInBounds (off + xs.length) (.int .u8 z), by simp, ?_, by simpa using hroom, by simpa using hsz, fun i hi => ?_⟩, ?_, fun g hg => Or.inl hg, b, off, cap, rfl⟩
      · show (w.setCell ⟨b, off + xs.length, none⟩ (.int .u8 z)).heap[b]? = _
        have hl := at_lt hh
        have hv := (Array.getElem?_eq_some_iff.1 hh).2
        unfold World.setCell
        rw [Array.getElem?_eq_getElem (by simpa using hl), Array.getElem_modify]
        simp [hv]
      · have hi' : i ≤ xs.length := by simp at hi; omega
        rw [getD_app1, Array.getElem?_setIfInBounds]
        by_cases e : i = xs.length
        · subst e
          rw [if_pos rfl, if_pos (by omega), if_neg (by omega)]
          simp
        · rw [if_neg (by omega), if_pos (by omega)]
          exact hx i (by omega)
      · have := Buts.cell w b (off + xs.length) (.int .u8 z)
        simpa [Value.ownBlock, World.setCells] using this
    · obtain ⟨v', w', hr, ho, hg⟩ := run_append_arg_grows (P := Tryz.prog) w 22 22 5 i (.int .u8 0) 1 1 Tryz.underlying22 hi hz hs hby rfl (by decide) ⟨b, off, none⟩ xs.length cap (byt xs) (by rw [byt_len, Nat.mul_one]) (byt_news (fun _ => ⟨b, off, rfl, fun i hi => by rw [cell_of hh]; exact hx i hi⟩)) ⟨b1, 0, none⟩ 1 1 [.int .u8 z] rfl hnews (by omega) (by simp only [maxLen]; omega) (by omega)
      have hsp : ∃ g cap, v' = .slice (some ⟨g, 0, none⟩) (xs.length + 1) cap := by
        rcases ho.2 with ⟨_, h0⟩ | ⟨g, cap, cur, rfl, _⟩
        · omega
        · exact ⟨g, cap, rfl⟩
      obtain ⟨g', c', rfl⟩ := hsp
      refine ⟨_, w', hr, Part.own (B := w.heap.size) (by simpa [byt] using ho), (Buts.grown hg).mono (by simp), fun g hg' => Or.inr (ho.lt g hg').1, g', 0, c', rfl⟩
/-- the same at the call -/
theorem wpList_part {w : World} {ops : Array Oper} {rest : List Oper} {o : Oper} {a : Go.Act} {Q : Exit → Go.Act → World → Prop} (hgd : o.guard = none) (s x : Operand)
    (ho : o.op = .call { callee := .builtin .append, args := #[s, x], argTypes := #[22, 22] }) (hty : o.type = 22) {b1 : Nat} {v : Value} {z : Int} {xs : List Int} (hse : a.eval s = v) (hx : a.eval x = .slice (some ⟨b1, 0, none⟩) 1 1)
    (hp : Part w v xs) (hl : xs.length ≤ 2000) (h1 : w.cell? ⟨b1, 0, none⟩ = some (.int .u8 z))
    (h : ∀ b off cap w', Hid (Part w' (.slice (some ⟨b, off, none⟩) (xs.length + 1) cap) (xs ++ [z])) → Hid (Buts v.ownBlock.toList w w') → Hid (v.ownBlock = some b ∨ w.heap.size ≤ b) → wpList Tryz.prog ops Q rest (a.put o.dst (.slice (some ⟨b, off, none⟩) (xs.length + 1) cap)) w') : wpList Tryz.prog ops Q (o :: rest) a w := by
  refine wpList_plain hgd fun K hK => ?_
  obtain ⟨v', w', hr, h2, h3, h4, b, off, cap, rfl⟩ := hp.add hl h1
  unfold Oper.wp execOp
  simp only [ho, resolve, invoke, builtin, Sem.run_bind, Sem.run_pure, Result.andThen_ok, List.map_toArray, List.map_cons, List.map_nil, hse, hx]
  rw [hty, hr]
  exact hK _ _ (h b off cap w' h2 h3 (h4 b rfl))
/-- where a core lies, and its code -/
structure Kp where
  p : Nat
  q : Nat
  g : Nat
  mb : Nat
  cp : Option Addr
  k : Nat
  kc : Nat
/-- a core as plain numbers -/
structure Cr where
  rs : List Int
  pc : Int
  zs : List Int
  cs : List Int
  con : List Int
  asked : Bool
/-- a function of the program -/
def fnv (n : Nat) : Value := .func (.func n) #[] #[]
/-- how an instruction is done -/
def dv (t g a : Value) : Value := .agg #[t, g, a]
def dvO : Nat → Value
  | 0 => dv .nilFunc .nilFunc .nilFunc
  | 1 => dv (fnv 77) .nilFunc .nilFunc
  | 2 => dv (fnv 78) .nilFunc .nilFunc
  | 3 => dv (fnv 79) .nilFunc .nilFunc
  | 4 => dv (fnv 79) .nilFunc .nilFunc
  | 5 => dv (fnv 79) .nilFunc .nilFunc
  | 6 => dv (fnv 79) .nilFunc .nilFunc
  | 7 => dv (fnv 79) .nilFunc .nilFunc
  | 8 => dv (fnv 79) .nilFunc .nilFunc
  | 9 => dv (fnv 79) .nilFunc .nilFunc
  | 10 => dv (fnv 79) .nilFunc .nilFunc
  | 11 => dv (fnv 80) .nilFunc .nilFunc
  | 12 => dv (fnv 81) .nilFunc .nilFunc
  | 13 => dv (fnv 82) .nilFunc .nilFunc
  | 14 => dv (fnv 83) .nilFunc .nilFunc
  | 15 => dv .nilFunc (fnv 84) .nilFunc
  | 16 => dv .nilFunc (fnv 84) .nilFunc
  | 17 => dv .nilFunc (fnv 84) .nilFunc
  | 18 => dv .nilFunc (fnv 84) .nilFunc
  | 19 => dv .nilFunc (fnv 85) .nilFunc
  | 20 => dv (fnv 86) .nilFunc .nilFunc
  | 21 => dv .nilFunc .nilFunc (fnv 87)
  | 22 => dv .nilFunc .nilFunc (fnv 88)
  | _ => .nilFunc
def entO (n : Nat) : MapEntry := ⟨.int .u8 n, dvO n, n⟩
def opsTo (n : Nat) : List MapEntry := (List.range n).map entO
def hdC (G : Kp) (cv : Value) (c : Cr) : List Value := c.rs.map (Value.int .u32) ++ [.int .i64 c.pc, .pointer (some ⟨G.q, 0, none⟩), .slice G.cp G.k G.kc, cv, .bool c.asked, .map (some G.mb)]
structure CM (w : World) (G : Kp) (cv : Value) (c : Cr) : Prop where
  head : w.heap[G.p]? = some (.cells (hdC G cv c).toArray 83 (0, 0))
  reg : Rn.Reg w G.q G.g c.zs
  code : w.ownsRow 0 70 4 (.slice G.cp G.k G.kc) G.k (byt c.cs)
  clen : c.cs.length = 4 * G.k
  cb : Bs c.cs
  cok : ∀ i, i < G.k → mayAt c.cs i = true
  map : ∃ ck, w.heap[G.mb]? = some (.map (opsTo 23).toArray ck)
  con : Part w cv c.con
  conb : Bs c.con
  conl : c.con.length ≤ 257
  cone : cv.ownBlock ≠ some G.g
  rl : c.rs.length = 8
  rn : ∀ z ∈ c.rs, Un.num z
  k : G.k ≤ 1024
  pc : -128 ≤ c.pc ∧ c.pc ≤ 65535
end Go.Proofs.YtomccgodfimaiaaGreatDoor
