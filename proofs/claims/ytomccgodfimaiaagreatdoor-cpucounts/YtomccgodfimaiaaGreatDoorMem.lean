/- What lies in memory: rows of bytes that are read, rows of one's own, images; blocks that stay as they were. No law of the program itself. -/
import Derived.Test.YtomccgodfimaiaaGreatDoorPure
import Derived.Laws.CopyOwn
import Derived.Laws.MakeOwn
import Derived.Laws.OwnMore
import Derived.Deep.RegionLaw
import Derived.Deep.QuietTactic
import Derived.BigQuiet
import Derived.Deep.CutRange
import Derived.Deep.RegionWith
import Derived.Deep.RegionHeld3
import Derived.Deep.CutBlock
import Derived.Maps.AppendAt
import Derived.Lib.AppendStr
import Derived.Laws.AppendOwnNone
namespace Go.Proofs.YtomccgodfimaiaaGreatDoor
set_option linter.all false
open Go Go.RowKit
set_option maxRecDepth 100000
set_option linter.unusedVariables false
/-- bytes as cells -/
def byt (zs : List Int) : List Value := zs.map (Value.int .u8)
theorem byt_len (zs : List Int) : (byt zs).length = zs.length := by simp [byt]
theorem byt_app (xs ys : List Int) : byt (xs ++ ys) = byt xs ++ byt ys := by simp [byt]
theorem byt_take (xs : List Int) (n : Nat) : (byt xs).take n = byt (xs.take n) := by simp [byt]
theorem byt_drop (xs : List Int) (n : Nat) : (byt xs).drop n = byt (xs.drop n) := by simp [byt]
theorem byt_at (zs : List Int) (i : Nat) (h : i < zs.length) : (byt zs)[i]? = some (.int .u8 (zs.getD i 0)) := by simp [byt, h]
theorem byt_one (zs : List Int) : ∀ u ∈ byt zs, u.oneCell' = true := by
  intro u hu
  obtain ⟨z, _, rfl⟩ := List.mem_map.1 hu
  rfl
theorem alloc_below (w : World) (o : Obj) : Below w.heap.size w (w.alloc o) := (Below.refl _ _).alloc (Nat.le_refl _) _
theorem cell_of {w : World} {b i : Nat} {cs : Array Value} {t : TypeId} {k : Nat × Nat} (h : w.heap[b]? = some (.cells cs t k)) : w.cell? ⟨b, i, none⟩ = cs[i]? := by
  simp [World.cell?, h]
theorem at_lt {w : World} {g : Nat} {o : Obj} (h : w.heap[g]? = some o) : g < w.heap.size := by
  rcases Nat.lt_or_ge g w.heap.size with k | k
  · exact k
  · rw [Array.getElem?_eq_none k] at h; cases h
theorem cell_lt {w : World} {n i : Nat} {v : Value} (h : w.cell? ⟨n, i, none⟩ = some v) : n < w.heap.size := by
  by_cases hn : n < w.heap.size
  · exact hn
  · rw [World.cell?] at h
    simp [Array.getElem?_eq_none (Nat.le_of_not_lt hn)] at h
/-- a slice of bytes that is read -/
def Src (w : World) (sp : Option Addr) (zs : List Int) : Prop :=
  0 < zs.length → ∃ b off, sp = some ⟨b, off, none⟩ ∧ ∀ i, i < zs.length → w.cell? ⟨b, off + i, none⟩ = some (.int .u8 (zs.getD i 0))
theorem Src.below {w w' : World} {sp : Option Addr} {zs : List Int} (h : Src w sp zs) (hb : Below w.heap.size w w') : Src w' sp zs := by
  intro hz
  obtain ⟨b, off, e, hc⟩ := h hz
  exact ⟨b, off, e, fun i hi => by rw [hb.cell (p := ⟨b, off + i, none⟩) (cell_lt (hc i hi))]; exact hc i hi⟩
theorem Src.nil (w : World) (sp : Option Addr) : Src w sp [] := fun h => by simp at h
theorem Src.own {w : World} {B n s : Nat} {t : TypeId} {v : Value} {zs : List Int} (h : w.ownsRow B t s v n (byt zs)) : ∃ sp cap, v = .slice sp n cap ∧ Src w sp zs ∧ n ≤ maxLen := by
  rcases h.2 with ⟨rfl, rfl⟩ | ⟨g, cap, cur, rfl, hg, hh, hc, hm, hs, ht⟩
  · have h0 := h.1
    rw [byt_len, Nat.zero_mul] at h0
    exact ⟨none, 0, rfl, fun hz => by omega, by simp⟩
  · refine ⟨_, cap, rfl, fun _ => ⟨g, 0, rfl, fun i hi => ?_⟩, by omega⟩
    have h1 := h.1
    rw [byt_len] at h1
    have : (byt zs)[i]? = some (.int .u8 (zs.getD i 0)) := byt_at zs i hi
    rw [← ht, List.getElem?_take, if_pos (by omega)] at this
    rw [Nat.zero_add, cell_of hh]
    simpa using this
theorem Src.drop {w : World} {us : List Int} {b off : Nat} (h : Src w (some ⟨b, off, none⟩) us) (k : Nat) : Src w (some ⟨b, off + k, none⟩) (us.drop k) := by
  intro hz
  obtain ⟨b', off', e, hc⟩ := h (by simp at hz; omega)
  simp only [Option.some.injEq, Addr.mk.injEq, and_true] at e
  obtain ⟨rfl, rfl⟩ := e
  refine ⟨b, off + k, rfl, fun i hi => ?_⟩
  have hi' : k + i < us.length := by simp at hi; omega
  rw [Nat.add_assoc, hc (k + i) hi']
  simp
theorem Src.take {w : World} {sp : Option Addr} {us : List Int} (h : Src w sp us) (k : Nat) : Src w sp (us.take k) := by
  intro hz
  obtain ⟨b, off, e, hc⟩ := h (by simp at hz; omega)
  refine ⟨b, off, e, fun i hi => ?_⟩
  have hi' : i < us.length ∧ i < k := by simp at hi; omega
  rw [hc i hi'.1]
  simp [hi'.2]
theorem add_none (b off j : Nat) : (⟨b, off, none⟩ : Addr).add j = ⟨b, off + j, none⟩ := by unfold Addr.add; split <;> simp_all
/-- what an append out of such a slice wants -/
theorem src_news {w : World} {b off : Nat} {zs : List Int} (h : Src w (some ⟨b, off, none⟩) zs) : ∀ j u, (byt zs)[j]? = some u → w.cell? ((⟨b, off, none⟩ : Addr).add j) = some u := by
  intro j u hj
  have hjl : j < zs.length := by
    rcases Nat.lt_or_ge j zs.length with k | k
    · exact k
    · rw [List.getElem?_eq_none (by simpa [byt] using k)] at hj; cases hj
  obtain ⟨b', off', e, hc⟩ := h (by omega)
  simp only [Option.some.injEq, Addr.mk.injEq, and_true] at e
  obtain ⟨rfl, rfl⟩ := e
  rw [add_none, hc j hjl]
  rw [byt_at _ _ hjl] at hj
  exact hj
/-- blocks that are as they were, but for those of a list -/
structure Buts (l : List Nat) (w w' : World) : Prop where
  os : w'.os = w.os
  tape : w'.tape = w.tape
  output : w'.output = w.output
  size : w.heap.size ≤ w'.heap.size
  block : ∀ k, k < w.heap.size → k ∉ l → w'.heap[k]? = w.heap[k]?
theorem Buts.refl (l : List Nat) (w : World) : Buts l w w := ⟨rfl, rfl, rfl, Nat.le_refl _, fun _ _ _ => rfl⟩
theorem Buts.trans {l : List Nat} {a b c : World} (h : Buts l a b) (k : Buts l b c) : Buts l a c :=
  ⟨k.os.trans h.os, k.tape.trans h.tape, k.output.trans h.output, Nat.le_trans h.size k.size, fun i hi hg => (k.block i (Nat.lt_of_lt_of_le hi h.size) hg).trans (h.block i hi hg)⟩
theorem Buts.mono {l m : List Nat} {a b : World} (h : Buts l a b) (hm : ∀ x ∈ l, x ∈ m) : Buts m a b :=
  ⟨h.os, h.tape, h.output, h.size, fun i hi hg => h.block i hi fun e => hg (hm i e)⟩
theorem Buts.of {l : List Nat} {w w' : World} (h : Below w.heap.size w w') : Buts l w w' := ⟨h.os, h.tape, h.output, h.size, fun k hk _ => h.block k hk⟩
theorem Buts.below {l : List Nat} {B : Nat} {w w' : World} (h : Buts l w w') (hg : ∀ x ∈ l, B ≤ x) (hB : B ≤ w.heap.size) : Below B w w' :=
  ⟨h.os, h.tape, h.output, h.size, fun k hk => h.block k (by omega) (fun e => by have := hg k e; omega)⟩
theorem Buts.cell (w : World) (g k : Nat) (v : Value) : Buts [g] w (w.setCell ⟨g, k, none⟩ v) :=
  ⟨rfl, rfl, rfl, by simp [World.setCell], fun j hj hg => Below.heap_setCell _ _ _ _ (by simpa using hg)⟩
theorem Buts.grown {w w' : World} {row : Option Nat} (h : w.grownBy w' row) : Buts row.toList w w' :=
  ⟨h.os, h.tape, h.output, h.size, fun k hk hg => h.block k hk (fun e => hg (by rw [← e]; simp))⟩
/-- a row that a slice owns stays, where its block does -/
theorem owns_of {w w' : World} {B : Nat} {e : TypeId} {s : Nat} {v : Value} {n : Nat} {xs : List Value} (h : w.ownsRow B e s v n xs) (hb : ∀ g, v.ownBlock = some g → w'.heap[g]? = w.heap[g]?) : w'.ownsRow B e s v n xs := by
  obtain ⟨h1, h2⟩ := h
  refine ⟨h1, ?_⟩
  rcases h2 with h2 | ⟨g, cap, cur, rfl, hg, hh, r⟩
  · exact Or.inl h2
  · exact Or.inr ⟨g, cap, cur, rfl, hg, by rw [hb g rfl]; exact hh, r⟩
theorem owns_buts {w w' : World} {B : Nat} {e : TypeId} {s : Nat} {v : Value} {n : Nat} {xs : List Value} {l : List Nat} (h : w.ownsRow B e s v n xs) (hb : Buts l w w') (hl : ∀ g, v.ownBlock = some g → g ∉ l) : w'.ownsRow B e s v n xs :=
  owns_of h fun g hg => hb.block g (h.lt g hg).2 (hl g hg)
theorem owns_below {w w' : World} {B m s : Nat} {t : TypeId} {v : Value} {xs : List Value} (h : w.ownsRow B t s v m xs) (hb : Below w.heap.size w w') : w'.ownsRow B t s v m xs :=
  owns_of h fun g hg => hb.block g (h.lt g hg).2
theorem owns_base {w : World} {B B' m s : Nat} {t : TypeId} {v : Value} {xs : List Value} (h : w.ownsRow B' t s v m xs) (hb : B ≤ B') : w.ownsRow B t s v m xs := by
  obtain ⟨h1, h2⟩ := h
  refine ⟨h1, ?_⟩
  rcases h2 with h2 | ⟨g, cap, cur, rfl, hg, r⟩
  · exact Or.inl h2
  · exact Or.inr ⟨g, cap, cur, rfl, by omega, r⟩
theorem owns_spot {w : World} {B : Nat} {e : TypeId} {s : Nat} {v : Value} {n : Nat} {xs : List Value} (h : w.ownsRow B e s v n xs) (hn : 0 < n) : ∃ g cap, v = .slice (some ⟨g, 0, none⟩) n cap ∧ n ≤ cap ∧ cap ≤ maxLen := by
  rcases h.2 with ⟨_, h0⟩ | ⟨g, cap, cur, rfl, _, _, hc, hm, _⟩
  · omega
  · exact ⟨g, cap, rfl, hc, hm⟩
theorem owns_form {w : World} {B : Nat} {v : Value} {n : Nat} {xs : List Value} {t : TypeId} {s : Nat} (h : w.ownsRow B t s v n xs) : ∃ sp cap, v = .slice sp n cap ∧ (0 < n → ∃ g, sp = some ⟨g, 0, none⟩) := by
  rcases h.2 with ⟨rfl, rfl⟩ | ⟨g, cap, cur, rfl, _, hh, hc, hm, _⟩
  · exact ⟨none, 0, rfl, by omega⟩
  · exact ⟨some ⟨g, 0, none⟩, cap, rfl, fun _ => ⟨g, rfl⟩⟩
/-- what an append to a row of one's own leaves as it was -/
theorem own_grown {w w' : World} {B : Nat} {e : TypeId} {s n : Nat} {v : Value} {xs : List Value} (h : w.ownsRow B e s v n xs) (hg : w.grownBy w' v.ownBlock) (hB : B ≤ w.heap.size) : Below B w w' :=
  (Buts.grown hg).below (fun x hx => (h.lt x (by cases hv : v.ownBlock <;> simp_all)).1) hB
theorem info_parts {P : Program} {t : TypeId} {v : Value} {s b : Nat} (h : (P.info? t).map (fun i => (i.zero, i.size, i.bytes)) = some (some v, s, b)) : ∃ i, P.info? t = some i ∧ i.zero = some v ∧ i.size = s ∧ i.bytes = b := by
  obtain ⟨i, hi, he⟩ := Option.map_eq_some_iff.1 h
  exact ⟨i, hi, by simpa using congrArg Prod.fst he, by simpa using congrArg (fun x => x.2.1) he, by simpa using congrArg (fun x => x.2.2) he⟩
theorem infoB : (Tryz.prog.info? 5).map (fun i => (i.zero, i.size, i.bytes)) = some (some (.int .u8 0), 1, 1) := by kernel_rfl
theorem infoI : (Tryz.prog.info? 70).map (fun i => (i.zero, i.size, i.bytes)) = some (some (.agg #[.int .u8 0, .int .u8 0, .int .u8 0, .int .u8 0]), 4, 4) := by kernel_rfl
/-- bytes put behind a row of one's own, out of a slice that is read, at the call -/
theorem wpList_more {w : World} {ops : Array Oper} {rest : List Oper} {o : Oper} {a : Act} {Q : Exit → Act → World → Prop} (hgd : o.guard = none) (s x : Operand)
    (ho : o.op = .call { callee := .builtin .append, args := #[s, x], argTypes := #[22, 22] }) {B n c : Nat} {v : Value} {xs zs : List Int} {sp : Option Addr} (hse : a.eval s = v) (hx : a.eval x = .slice sp zs.length c)
    (hown : w.ownsRow B 5 1 v n (byt xs)) (hsrc : Src w sp zs) (hc : sp = none → c = 0) (hlen : n + zs.length ≤ 1000000) (hB : B ≤ w.heap.size)
    (h : ∀ v' w', Hid (w'.ownsRow B 5 1 v' (n + zs.length) (byt (xs ++ zs))) → Hid (w.grownBy w' v.ownBlock) → wpList Tryz.prog ops Q rest (a.put o.dst v') w') : wpList Tryz.prog ops Q (o :: rest) a w := by
  obtain ⟨i, hi, hz, hs, hby⟩ := info_parts infoB
  cases sp with
  | none =>
    have h0 : zs = [] := by
      rcases zs with _ | ⟨z, zs⟩
      · rfl
      · obtain ⟨b, off, e, _⟩ := hsrc (by simp)
        cases e
    subst h0
    obtain rfl := hc rfl
    refine wpList_append_own_none hgd s x 22 ho B 5 i 1 Tryz.underlying22 hi v n (byt xs) hse hown hx (h v w ?_ ?_)
    · show w.ownsRow _ _ _ _ _ _; simpa using hown
    · exact ⟨rfl, rfl, rfl, Nat.le_refl _, fun _ _ _ => rfl⟩
  | some ad =>
    by_cases h0 : zs.length = 0
    · obtain rfl : zs = [] := List.eq_nil_of_length_eq_zero h0
      refine wpList_append_own (w := w) hgd s x 22 ho B 5 i (.int .u8 0) 1 1 Tryz.underlying22 hi hz hs hby rfl (by decide) v n (byt xs) hse hown ad 0 c [] hx rfl (fun j u hj => by simp at hj) (fun u hu => by cases hu) (by simp only [maxLen]; simp at hlen; omega) (by simp at hlen; omega) hB ?_
      intro v' w' h2 h3 h4
      exact h v' w' (by show w'.ownsRow _ _ _ _ _ _; simpa [byt] using h2) h3
    · obtain ⟨b, off, e, hcell⟩ := hsrc (by omega)
      cases e
      refine wpList_append_own (w := w) hgd s x 22 ho B 5 i (.int .u8 0) 1 1 Tryz.underlying22 hi hz hs hby rfl (by decide) v n (byt xs) hse hown ⟨b, off, none⟩ zs.length c (byt zs) hx (by rw [byt_len, Nat.mul_one]) (src_news hsrc) (byt_one zs) (by simp only [maxLen]; omega) (by omega) hB ?_
      intro v' w' h2 h3 h4
      exact h v' w' (by show w'.ownsRow _ _ _ _ _ _; rw [byt_app]; exact h2) h3
/-- instructions put behind a row of one's own -/
theorem wpList_moreI {w : World} {ops : Array Oper} {rest : List Oper} {o : Oper} {a : Act} {Q : Exit → Act → World → Prop} (hgd : o.guard = none) (s x : Operand)
    (ho : o.op = .call { callee := .builtin .append, args := #[s, x], argTypes := #[23, 23] }) {B n m t c : Nat} {v : Value} {xs zs : List Int} {b off : Nat} (hse : a.eval s = v) (hx : a.eval x = .slice (some ⟨b, off, none⟩) m c)
    (hown : w.ownsRow B 70 4 v n (byt xs)) (hsrc : Src w (some ⟨b, off, none⟩) zs) (hm : zs.length = m * 4) (ht : n + m = t) (hlen : t ≤ 1000000) (hB : B ≤ w.heap.size)
    (h : ∀ sp' c' w', Hid (w'.ownsRow B 70 4 (.slice sp' t c') t (byt (xs ++ zs))) → Hid (w.grownBy w' v.ownBlock) → wpList Tryz.prog ops Q rest (a.put o.dst (.slice sp' t c')) w') : wpList Tryz.prog ops Q (o :: rest) a w := by
  subst ht
  obtain ⟨i, hi, hz, hs, hby⟩ := info_parts infoI
  refine wpList_append_own (w := w) hgd s x 23 ho B 70 i _ 4 4 Tryz.underlying23 hi hz hs hby rfl (by decide) v n (byt xs) hse hown ⟨b, off, none⟩ m c (byt zs) hx (by rw [byt_len]; exact hm) (src_news hsrc) (byt_one zs) (by simp only [maxLen]; omega) (by omega) hB ?_
  intro v' w' h2 h3 h4
  obtain ⟨sp', c', rfl, _⟩ := owns_form h2
  exact h sp' c' w' (by show w'.ownsRow _ _ _ _ _ _; rw [byt_app]; exact h2) h3
/-- an image's value -/
def iv (size : Int) (sp : Option Addr) (d dc : Nat) (cp : Option Addr) (k kc : Nat) : Value := .agg #[.int .i64 size, .slice sp d dc, .slice cp k kc]
/-- an image that is read -/
structure Img (w : World) (sp : Option Addr) (ds : List Int) (cp : Option Addr) (cs : List Int) (k : Nat) : Prop where
  d : Src w sp ds
  c : Src w cp cs
  len : cs.length = 4 * k
  db : Bs ds
  cb : Bs cs
theorem Img.on {w w' : World} {sp cp : Option Addr} {ds cs : List Int} {k : Nat} (h : Img w sp ds cp cs k) (hb : Below w.heap.size w w') : Img w' sp ds cp cs k := ⟨h.d.below hb, h.c.below hb, h.len, h.db, h.cb⟩
theorem Img.one {w : World} {sp cp : Option Addr} {ds cs : List Int} {k : Nat} (h : Img w sp ds cp cs k) (x : Obj) : Img (w.alloc x) sp ds cp cs k := h.on (alloc_below w x)
end Go.Proofs.YtomccgodfimaiaaGreatDoor
