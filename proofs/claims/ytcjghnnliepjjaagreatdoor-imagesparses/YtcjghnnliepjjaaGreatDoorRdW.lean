/- What reads a line, by the program's own closures: the image so far, and what each line makes of it. -/
import Derived.Test.YtcjghnnliepjjaaGreatDoorRd
namespace Go.Proofs.YtcjghnnliepjjaaGreatDoor
open Go Go.RowKit
set_option maxRecDepth 100000
set_option linter.unusedVariables false
/-- an image so far -/
structure Im where
  n : Int
  z : Bool
  ds : List Int
  cs : List Int
  k : Nat
/-- a line's first word, and what stands behind the blank -/
def wordOf (l : List UInt8) : List UInt8 := (Lib.cut l [32]).1
def restOf (l : List UInt8) : List UInt8 := (Lib.cut l [32]).2.1
/-- what one line makes of it; none: it is none -/
def lineI (m : Im) (l : List UInt8) : Option Im :=
  if wordOf l = [115, 105, 122, 101] then
    match dec31 (restOf l) with
    | some u => if m.z = true then none else some { m with n := u, z := true }
    | none => none
  else if wordOf l = [100, 97, 116, 97] then
    match hex1 (restOf l) with
    | some ys => some { m with ds := m.ds ++ ys }
    | none => none
  else match prs (splitP ⟨l.toArray⟩) with
    | some (o, [a, b, c]) => some { m with cs := m.cs ++ [(o : Int), a, b, c], k := m.k + 1 }
    | _ => none
/-- how it lies in memory -/
structure RS (w : World) (B G L1 L2 L3 L4 L5 : Nat) (m : Im) : Prop where
  rows : ∃ dp dc cp cc, w.heap[G]? = some (.cells #[.int .i64 m.n, .slice dp m.ds.length dc, .slice cp m.k cc] 25 (0, 0)) ∧ w.ownsRow B 5 1 (.slice dp m.ds.length dc) m.ds.length (byt m.ds) ∧ w.ownsRow B 64 4 (.slice cp m.k cc) m.k (byt m.cs)
  l1 : w.heap[L1]? = some (.cells #[.pointer (some ⟨G, 0, none⟩)] 77 (0, 0))
  l2 : w.heap[L2]? = some (.cells #[.pointer (some ⟨G, 0, none⟩)] 77 (0, 0))
  l3 : w.heap[L3]? = some (.cells #[.bool m.z] 4 (0, 0))
  l4 : w.heap[L4]? = some (.map (ents L2 L3) 2)
  l5 : w.heap[L5]? = some (.cells #[.map (some L4)] 141 (0, 0))
  ord : G < L1 ∧ L1 < L2 ∧ L2 < L3 ∧ L3 < L4 ∧ L4 < L5 ∧ L5 < B ∧ B ≤ w.heap.size
  len : m.cs.length = 4 * m.k
  db : Bs m.ds
  cb : Bs m.cs
/-- new memory changes nothing of it -/
theorem RS.on {w w' : World} {B G L1 L2 L3 L4 L5 : Nat} {m : Im} (h : RS w B G L1 L2 L3 L4 L5 m) (hb : Below w.heap.size w w') : RS w' B G L1 L2 L3 L4 L5 m := by
  obtain ⟨dp, dc, cp, cc, hg, h1, h2⟩ := h.rows
  have o := h.ord
  exact ⟨⟨dp, dc, cp, cc, (hb.block _ (at_lt hg)).trans hg, owns_below h1 hb, owns_below h2 hb⟩, (hb.block _ (at_lt h.l1)).trans h.l1, (hb.block _ (at_lt h.l2)).trans h.l2, (hb.block _ (at_lt h.l3)).trans h.l3, (hb.block _ (at_lt h.l4)).trans h.l4, (hb.block _ (at_lt h.l5)).trans h.l5, ⟨o.1, o.2.1, o.2.2.1, o.2.2.2.1, o.2.2.2.2.1, o.2.2.2.2.2.1, Nat.le_trans o.2.2.2.2.2.2 hb.size⟩, h.len, h.db, h.cb⟩
theorem heap_else (w : World) (p k q : Nat) (v : Value) (h : q ≠ p) : (w.setCell ⟨p, k, none⟩ v).heap[q]? = w.heap[q]? := Below.heap_setCell _ _ _ _ h
theorem owns_set {w : World} {B n s p k : Nat} {t : TypeId} {v x : Value} {xs : List Value} (h : w.ownsRow B t s v n xs) (hp : p < B) : (w.setCell ⟨p, k, none⟩ x).ownsRow B t s v n xs :=
  owns_buts (l := [p]) h (Buts.cell _ _ _ _) fun g hg => by have := (h.lt g hg).1; simp; omega
theorem RS.size {w : World} {B G L1 L2 L3 L4 L5 : Nat} {m : Im} (h : RS w B G L1 L2 L3 L4 L5 m) (u : Int) : RS ((w.setCell ⟨G, 0, none⟩ (.int .i64 u)).setCell ⟨L3, 0, none⟩ (.bool true)) B G L1 L2 L3 L4 L5 { m with n := u, z := true } := by
  obtain ⟨dp, dc, cp, cc, hg, h1, h2⟩ := h.rows
  have o := h.ord
  have q : ∀ x, x ≠ G → x ≠ L3 → ((w.setCell ⟨G, 0, none⟩ (.int .i64 u)).setCell ⟨L3, 0, none⟩ (.bool true)).heap[x]? = w.heap[x]? := fun x a b => (heap_else _ _ _ _ _ b).trans (heap_else _ _ _ _ _ a)
  refine ⟨⟨dp, dc, cp, cc, ?_, owns_set (owns_set h1 (by omega)) (by omega), owns_set (owns_set h2 (by omega)) (by omega)⟩, (q _ (by omega) (by omega)).trans h.l1, (q _ (by omega) (by omega)).trans h.l2, ?_, (q _ (by omega) (by omega)).trans h.l4, (q _ (by omega) (by omega)).trans h.l5, ⟨o.1, o.2.1, o.2.2.1, o.2.2.2.1, o.2.2.2.2.1, o.2.2.2.2.2.1, by rw [setCell_size, setCell_size]; exact o.2.2.2.2.2.2⟩, h.len, h.db, h.cb⟩
  · rw [heap_else _ _ _ _ _ (by omega)]; exact set_block hg 0 _
  · exact set_block ((heap_else _ _ _ _ _ (by omega)).trans h.l3) 0 _
theorem RS.data {w w2 : World} {B G L1 L2 L3 L4 L5 : Nat} {m : Im} (h : RS w B G L1 L2 L3 L4 L5 m) (hb : Below B w w2) (hT : Tb 5 w w2) {sp : Option Addr} {c : Nat} {ys : List Int} (hy : Bs ys) (ho : w2.ownsRow B 5 1 (.slice sp (m.ds.length + ys.length) c) (m.ds.length + ys.length) (byt (m.ds ++ ys))) :
    RS (w2.setCell ⟨G, 1, none⟩ (.slice sp (m.ds.length + ys.length) c)) B G L1 L2 L3 L4 L5 { m with ds := m.ds ++ ys } := by
  obtain ⟨dp, dc, cp, cc, hg, h1, h2⟩ := h.rows
  have o := h.ord
  have q : ∀ x, x < B → x ≠ G → (w2.setCell ⟨G, 1, none⟩ (.slice sp (m.ds.length + ys.length) c)).heap[x]? = w.heap[x]? := fun x a b => (heap_else _ _ _ _ _ b).trans (hb.block x a)
  refine ⟨⟨sp, c, cp, cc, ?_, ?_, owns_set (owns_tb h2 hT (by decide)) (by omega)⟩, (q _ (by omega) (by omega)).trans h.l1, (q _ (by omega) (by omega)).trans h.l2, (q _ (by omega) (by omega)).trans h.l3, (q _ (by omega) (by omega)).trans h.l4, (q _ (by omega) (by omega)).trans h.l5, ⟨o.1, o.2.1, o.2.2.1, o.2.2.2.1, o.2.2.2.2.1, o.2.2.2.2.2.1, by rw [setCell_size]; exact Nat.le_trans o.2.2.2.2.2.2 hb.size⟩, h.len, h.db.app hy, h.cb⟩
  · simpa using set_block ((hb.block G (by omega)).trans hg) 1 (.slice sp (m.ds.length + ys.length) c)
  · simpa using owns_set (p := G) (k := 1) (x := .slice sp (m.ds.length + ys.length) c) ho (by omega)
theorem RS.code {w w2 : World} {B G L1 L2 L3 L4 L5 : Nat} {m : Im} (h : RS w B G L1 L2 L3 L4 L5 m) (hb : Below B w w2) (hT : Tb 64 w w2) {sp : Option Addr} {c : Nat} {x0 x1 x2 x3 : Int} (hx : byte x0 ∧ byte x1 ∧ byte x2 ∧ byte x3) (ho : w2.ownsRow B 64 4 (.slice sp (m.k + 1) c) (m.k + 1) (byt (m.cs ++ [x0, x1, x2, x3]))) :
    RS (w2.setCell ⟨G, 2, none⟩ (.slice sp (m.k + 1) c)) B G L1 L2 L3 L4 L5 { m with cs := m.cs ++ [x0, x1, x2, x3], k := m.k + 1 } := by
  obtain ⟨dp, dc, cp, cc, hg, h1, h2⟩ := h.rows
  have o := h.ord
  have q : ∀ x, x < B → x ≠ G → (w2.setCell ⟨G, 2, none⟩ (.slice sp (m.k + 1) c)).heap[x]? = w.heap[x]? := fun x a b => (heap_else _ _ _ _ _ b).trans (hb.block x a)
  refine ⟨⟨dp, dc, sp, c, ?_, owns_set (owns_tb h1 hT (by decide)) (by omega), owns_set ho (by omega)⟩, (q _ (by omega) (by omega)).trans h.l1, (q _ (by omega) (by omega)).trans h.l2, (q _ (by omega) (by omega)).trans h.l3, (q _ (by omega) (by omega)).trans h.l4, (q _ (by omega) (by omega)).trans h.l5, ⟨o.1, o.2.1, o.2.2.1, o.2.2.2.1, o.2.2.2.2.1, o.2.2.2.2.2.1, by rw [setCell_size]; exact Nat.le_trans o.2.2.2.2.2.2 hb.size⟩, by have := h.len; simp; omega, h.db, h.cb.app (Bs.cons hx.1 (Bs.cons hx.2.1 (Bs.cons hx.2.2.1 (Bs.cons hx.2.2.2 Bs.nil))))⟩
  exact set_block ((hb.block G (by omega)).trans hg) 2 _
/-- what is answered of a line -/
def RL (w w' : World) (e : Ending) (B G L1 L2 L3 L4 L5 : Nat) : Option Im → Prop
  | some m => e = .returned (.bool true) ∧ RS w' B G L1 L2 L3 L4 L5 m ∧ Below G w w'
  | none => e = .returned (.bool false) ∧ Below G w w'
theorem hex1_bs {l : List UInt8} {ys : List Int} (h : hex1 l = some ys) : Bs ys := by
  unfold hex1 at h
  split at h
  · cases h
  · exact (hexs_len l ys h).2
set_option maxHeartbeats 4000000 in
theorem size_any {w : World} {B G L1 L2 L3 L4 L5 : Nat} {m : Im} (h : RS w B G L1 L2 L3 L4 L5 m) (hE : Env3 w) (t : ByteArray) (hl : t.size ≤ 1000000) :
    Calls Tryz.prog 112 #[.string t, .pointer (some ⟨L3, 0, none⟩), .pointer (some ⟨L2, 0, none⟩)] w fun e w' => RL w w' e B G L1 L2 L3 L4 L5 (match dec31 t.data.toList with | some u => if m.z = true then none else some { m with n := u, z := true } | none => none) := by
  have cD := decN_any t hl w hE
  have o := h.ord
  obtain ⟨dp, dc, cp, cc, hg, h1, h2⟩ := h.rows
  cases hd : dec31 t.data.toList with
  | none =>
    rw [hd] at cD
    simp only at cD ⊢
    clear hE hd
    go_enter Tryz.func112, Tryz.ntmps112
    go_wp2_with (go_at_call 113; refine cD.mono ?_; rintro e w1 ⟨rfl, hb⟩)
    go_ret
    exact ⟨rfl, hb.mono (by omega)⟩
  | some u =>
    rw [hd] at cD
    simp only at cD ⊢
    cases hz : m.z with
    | true =>
      have l3 : w.cell? ⟨L3, 0, none⟩ = some (.bool true) := by rw [cell_of h.l3, hz]; rfl
      rw [if_pos rfl]
      clear hE hd
      go_enter Tryz.func112, Tryz.ntmps112
      go_wp2_with (go_at_call 113; refine cD.mono ?_; rintro e w1 ⟨rfl, hb⟩; have x3 := (hb.cell (p := ⟨L3, 0, none⟩) (show L3 < w.heap.size by omega)).trans l3)
      go_ret
      exact ⟨rfl, hb.mono (by omega)⟩
    | false =>
      rw [if_neg (by decide)]
      have HRS : Hid (RS w B G L1 L2 L3 L4 L5 m) := h
      have HZ : Hid (m.z = false) := hz
      clear hE hd h1 h2 hg hz h
      go_enter Tryz.func112, Tryz.ntmps112
      go_wp2_with (go_at_call 113; refine cD.mono ?_; rintro e w1 ⟨rfl, hb⟩; have R1 := HRS.out.on hb; have x3 : w1.cell? ⟨L3, 0, none⟩ = some (.bool false) := (by rw [cell_of R1.l3, HZ.out]; rfl); have x2 : w1.cell? ⟨L2, 0, none⟩ = some (.pointer (some ⟨G, 0, none⟩)) := (by rw [cell_of R1.l2]; rfl); obtain ⟨dp1, dc1, cp1, cc1, hg1, o1, o2⟩ := R1.rows; have xg : w1.cell? ⟨G, 0, none⟩ = some (.int .i64 m.n) := (by rw [cell_of hg1]; rfl); have fg := free_of hg1 0; have f3 := free_of R1.l3 0; have n3 : G ≠ L3 := (by omega); have n4 : L3 ≠ G := (by omega))
      go_ret
      exact ⟨rfl, R1.size u, (((hb.mono (show G ≤ w.heap.size by omega)).setCell (Nat.le_refl _) _).setCell (by show G ≤ L3; omega) _)⟩
set_option maxHeartbeats 4000000 in
theorem data_any {w : World} {B G L1 L2 L3 L4 L5 : Nat} {m : Im} (h : RS w B G L1 L2 L3 L4 L5 m) (hn : m.ds.length ≤ 100000000) (t : ByteArray) (hl : t.size ≤ 1000000) :
    Calls Tryz.prog 114 #[.string t, .pointer (some ⟨L2, 0, none⟩)] w fun e w' => RL w w' e B G L1 L2 L3 L4 L5 (match hex1 t.data.toList with | some ys => some { m with ds := m.ds ++ ys } | none => none) := by
  have o := h.ord
  obtain ⟨dp, dc, cp, cc, hg, h1, h2⟩ := h.rows
  have x2 : w.cell? ⟨L2, 0, none⟩ = some (.pointer (some ⟨G, 0, none⟩)) := by rw [cell_of h.l2]; rfl
  have x1 : w.cell? ⟨G, 1, none⟩ = some (.slice dp m.ds.length dc) := by rw [cell_of hg]; rfl
  have x0 : w.cell? ⟨G, 0, none⟩ = some (.int .i64 m.n) := by rw [cell_of hg]; rfl
  have cH := appendHex_any t hl h1 hn (by omega)
  cases hd : hex1 t.data.toList with
  | none =>
    rw [hd] at cH
    simp only [HX] at cH ⊢
    clear hd
    go_enter Tryz.func114, Tryz.ntmps114
    go_wp2_with (go_at_call 115; refine cH.mono ?_; rintro e w1 ⟨rfl, hb, hT⟩)
    go_ret
    exact ⟨rfl, hb.mono (by omega)⟩
  | some ys =>
    rw [hd] at cH
    simp only [HX] at cH ⊢
    have hy : Bs ys := hex1_bs hd
    have HRS : Hid (RS w B G L1 L2 L3 L4 L5 m) := h
    clear hd h h1 h2
    go_enter Tryz.func114, Tryz.ntmps114
    go_wp2_with (go_at_call 115; refine cH.mono ?_; rintro e w1 ⟨⟨sp, c, rfl, ho⟩, hb, hT⟩; have y2 := (hb.cell (p := ⟨L2, 0, none⟩) (show L2 < B by omega)).trans x2; have y1 := (hb.cell (p := ⟨G, 1, none⟩) (show G < B by omega)).trans x1; have yf := free_of ((hb.block G (by omega)).trans hg) 1; have y0 := (hb.cell (p := ⟨G, 0, none⟩) (show G < B by omega)).trans x0)
    go_ret
    exact ⟨rfl, HRS.out.data hb hT hy ho, (hb.mono (show G ≤ B by omega)).setCell (Nat.le_refl _) _⟩
/-- instructions put behind a row of one's own, as one step of a region that draws its order -/
theorem step_ins {w : World} {ops : Array Oper} {o : Oper} {a : Act} {K : Act → World → Prop} {Q : Exit → Act → World → Prop} {X : Prop} (hgd : o.guard = none) (s x : Operand)
    (ho : o.op = .call { callee := .builtin .append, args := #[s, x], argTypes := #[23, 23] }) {B n t c b off : Nat} {v : Value} {xs zs : List Int} (hse : a.eval s = v) (hx : a.eval x = .slice (some ⟨b, off, none⟩) 1 c) (hm : zs.length = 4) (ht : n + 1 = t)
    (hown : w.ownsRow B 64 4 v n (byt xs)) (hsrc : Src w (some ⟨b, off, none⟩) zs) (hlen : t ≤ 100000000) (hB : B ≤ w.heap.size)
    (h : ∀ sp' c' w', Hid (w'.ownsRow B 64 4 (.slice sp' t c') t (byt (xs ++ zs))) → Hid (w.grownBy w' v.ownBlock) → K (a.put o.dst (.slice sp' t c')) w') :
    if Region.wanted o (yielded ops a.tmps) = true then Oper.wp Tryz.prog o a w K Q else X := by
  subst ht
  have hw : Region.wanted o (yielded ops a.tmps) = true := by simp [Region.wanted, hgd]
  rw [if_pos hw]
  obtain ⟨i, hi, hz, hs, hby⟩ := info_parts infoI
  obtain ⟨v', w', hr, h2, h3, h4⟩ := run_append_own (P := Tryz.prog) w B 23 o.type 64 i _ 4 4 Tryz.underlying23 hi hz hs hby rfl (by decide) v n (byt xs) hown ⟨b, off, none⟩ 1 c (byt zs) (by rw [byt_len]; exact hm) (src_news hsrc) (byt_one zs) (by simp only [maxLen]; omega) (by omega) hB
  obtain ⟨sp', c', rfl, _⟩ := owns_form h2
  unfold Oper.wp execOp
  simp only [ho, resolve, invoke, builtin, Sem.run_bind, Sem.run_pure, Result.andThen_ok, List.map_toArray, List.map_cons, List.map_nil, hse, hx, hr]
  exact h sp' c' w' (by show w'.ownsRow _ _ _ _ _ _; rw [byt_app]; exact h2) h3
theorem arr_inj {a b : List UInt8} (h : (⟨a.toArray⟩ : ByteArray) = ⟨b.toArray⟩) : a = b := by
  have := congrArg (fun x : ByteArray => x.data.toList) h
  simpa using this
theorem find_no {L2 L3 : Nat} {l : List UInt8} (h1 : l ≠ [115, 105, 122, 101]) (h2 : l ≠ [100, 97, 116, 97]) : Instr.findNow .string (.string ⟨l.toArray⟩) (ents L2 L3).toList 0 = some none := by
  have e1 : ((⟨l.toArray⟩ : ByteArray) == ⟨#[115, 105, 122, 101]⟩) = false := (show (l.toArray == #[115, 105, 122, 101]) = false from beq_eq_false_iff_ne.2 fun e => h1 (by simpa using congrArg Array.toList e))
  have e2 : ((⟨l.toArray⟩ : ByteArray) == ⟨#[100, 97, 116, 97]⟩) = false := (show (l.toArray == #[100, 97, 116, 97]) = false from beq_eq_false_iff_ne.2 fun e => h2 (by simpa using congrArg Array.toList e))
  simp [Instr.findNow, Instr.sameNow, ents, sizeW, dataW, e1, e2]
theorem cut_len (l sep : List UInt8) : (Lib.cut l sep).1.length ≤ l.length ∧ (Lib.cut l sep).2.1.length ≤ l.length := by
  unfold Lib.cut
  split
  · simp; omega
  · simp
theorem RL.up {w w1 w2 : World} {e : Ending} {B G L1 L2 L3 L4 L5 : Nat} {r : Option Im} (h : RL w1 w2 e B G L1 L2 L3 L4 L5 r) (hb : Below w.heap.size w w1) (hG : G ≤ w.heap.size) : RL w w2 e B G L1 L2 L3 L4 L5 r := by
  cases r with
  | none => exact ⟨h.1, (hb.mono hG).trans h.2⟩
  | some m => exact ⟨h.1, h.2.1, (hb.mono hG).trans h.2.2⟩
theorem RL.ret {w w2 : World} {e : Ending} {B G L1 L2 L3 L4 L5 : Nat} {r : Option Im} (h : RL w w2 e B G L1 L2 L3 L4 L5 r) : e = .returned (.bool r.isSome) ∧ RL w w2 (.returned (.bool r.isSome)) B G L1 L2 L3 L4 L5 r := by
  cases r with
  | none => exact ⟨h.1, rfl, h.2⟩
  | some m => exact ⟨h.1, rfl, h.2⟩
set_option maxHeartbeats 8000000 in
theorem line_any {w : World} {B G L1 L2 L3 L4 L5 : Nat} {m : Im} (h : RS w B G L1 L2 L3 L4 L5 m) (hE : Env3 w) (hn : m.ds.length ≤ 100000000) (hk : m.k ≤ 10000000) (l : List UInt8) (hl : l.length ≤ 1000000) :
    Calls Tryz.prog 99 #[.string ⟨l.toArray⟩, .pointer (some ⟨L5, 0, none⟩), .pointer (some ⟨L1, 0, none⟩)] w fun e w' => RL w w' e B G L1 L2 L3 L4 L5 (lineI m l) := by
  obtain ⟨mx, hmx⟩ := hE.num
  have o := h.ord
  have cC := Tryz.strings_Cut ⟨l.toArray⟩ ⟨#[32]⟩ mx w (by show l.toArray.size < _; simp; omega) hmx
  have hcl := cut_len l [32]
  obtain ⟨q, hq⟩ : ∃ q, Lib.cut l [32] = q := ⟨_, rfl⟩
  have hq' : Lib.cut (⟨l.toArray⟩ : ByteArray).data.toList (⟨#[32]⟩ : ByteArray).data.toList = q := by simpa using hq
  rw [hq'] at cC
  rw [hq] at hcl
  obtain ⟨q1, q2, q3⟩ := q
  simp only at cC hcl
  have hw1 : wordOf l = q1 := by unfold wordOf; rw [hq]
  have hw2 : restOf l = q2 := by unfold restOf; rw [hq]
  have hsz : (⟨q2.toArray⟩ : ByteArray).size ≤ 1000000 := by show q2.toArray.size ≤ _; simp; omega
  unfold lineI
  rw [hw1, hw2]
  have HRS : Hid (RS w B G L1 L2 L3 L4 L5 m) := h
  have HE : Hid (Env3 w) := hE
  have x5 : w.cell? ⟨L5, 0, none⟩ = some (.map (some L4)) := by rw [cell_of h.l5]; rfl
  by_cases hs : q1 = [115, 105, 122, 101]
  · subst hs
    rw [if_pos rfl]
    have cS : ∀ W, RS W B G L1 L2 L3 L4 L5 m → Env3 W → Calls Tryz.prog 112 #[.string ⟨q2.toArray⟩, .pointer (some ⟨L3, 0, none⟩), .pointer (some ⟨L2, 0, none⟩)] W fun e w' => RL W w' e B G L1 L2 L3 L4 L5 (match dec31 q2 with | some u => if m.z = true then none else some { m with n := u, z := true } | none => none) := fun W hW hEW => by
      have := size_any hW hEW ⟨q2.toArray⟩ hsz
      simpa using this
    generalize (match dec31 q2 with | some u => if m.z = true then none else some { m with n := u, z := true } | none => none : Option Im) = r at *
    have hlk : ∀ W, W.heap[L4]? = some (.map (ents L2 L3) 2) → (Instr.lookup 141 (.map (some L4)) (.string ⟨#[115, 105, 122, 101]⟩) true).run Tryz.prog W = .ok (.tuple #[.func (.func 112) #[] #[.pointer (some ⟨L3, 0, none⟩), .pointer (some ⟨L2, 0, none⟩)], .bool true]) W := fun W hW => look_yes hW _ 0 _ rfl
    clear h hE hmx hq hq' hw1 hw2
    go_enter Tryz.func99, Tryz.ntmps99
    go_wp2_with (first
      | (go_at_call 69; refine cC.mono ?_; rintro e w1 ⟨rfl, nd, hw1⟩; have hb1 : Below w.heap.size w w1 := (by rw [hw1]; exact below_drewN _ _); clear hw1; have y5 := (hb1.cell (p := ⟨L5, 0, none⟩) (show L5 < w.heap.size by omega)).trans x5; have R1 := HRS.out.on hb1; have lk := hlk w1 R1.l4)
      | (go_at_call 112; refine (cS _ R1 (HE.out.on hb1)).mono ?_; intro e w2 h2; obtain ⟨rfl, h3⟩ := h2.ret))
    go_ret
    exact h3.up hb1 (by omega)
  · rw [if_neg hs]
    by_cases hd : q1 = [100, 97, 116, 97]
    · subst hd
      rw [if_pos rfl]
      have cS : ∀ W, RS W B G L1 L2 L3 L4 L5 m → Calls Tryz.prog 114 #[.string ⟨q2.toArray⟩, .pointer (some ⟨L2, 0, none⟩)] W fun e w' => RL W w' e B G L1 L2 L3 L4 L5 (match hex1 q2 with | some ys => some { m with ds := m.ds ++ ys } | none => none) := fun W hW => by
        have := data_any hW hn ⟨q2.toArray⟩ hsz
        simpa using this
      generalize (match hex1 q2 with | some ys => some { m with ds := m.ds ++ ys } | none => none : Option Im) = r at *
      have hlk : ∀ W, W.heap[L4]? = some (.map (ents L2 L3) 2) → (Instr.lookup 141 (.map (some L4)) (.string ⟨#[100, 97, 116, 97]⟩) true).run Tryz.prog W = .ok (.tuple #[.func (.func 114) #[] #[.pointer (some ⟨L2, 0, none⟩)], .bool true]) W := fun W hW => look_yes hW _ 1 _ rfl
      clear h hE hmx hq hq' hw1 hw2 hs
      go_enter Tryz.func99, Tryz.ntmps99
      go_wp2_with (first
        | (go_at_call 69; refine cC.mono ?_; rintro e w1 ⟨rfl, nd, hw1⟩; have hb1 : Below w.heap.size w w1 := (by rw [hw1]; exact below_drewN _ _); clear hw1; have y5 := (hb1.cell (p := ⟨L5, 0, none⟩) (show L5 < w.heap.size by omega)).trans x5; have R1 := HRS.out.on hb1; have lk := hlk w1 R1.l4)
        | (go_at_call 114; refine (cS _ R1).mono ?_; intro e w2 h2; obtain ⟨rfl, h3⟩ := h2.ret))
      go_ret
      exact h3.up hb1 (by omega)
    · rw [if_neg hd]
      have hlk : ∀ W, W.heap[L4]? = some (.map (ents L2 L3) 2) → (Instr.lookup 141 (.map (some L4)) (.string ⟨q1.toArray⟩) true).run Tryz.prog W = .ok (.tuple #[.nilFunc, .bool false]) W := fun W hW => look_no hW _ (find_no hs hd)
      have cP : ∀ W, Env3 W → _ := fun W hW => Parse_any ⟨l.toArray⟩ (by show l.toArray.size < _; simp; omega) W hW
      have hls : (⟨l.toArray⟩ : ByteArray).size ≤ 1000000 := by show l.toArray.size ≤ _; simp; exact hl
      generalize (⟨q1.toArray⟩ : ByteArray) = t1 at *
      generalize (⟨l.toArray⟩ : ByteArray) = tl at *
      have x1 : w.cell? ⟨L1, 0, none⟩ = some (.pointer (some ⟨G, 0, none⟩)) := by rw [cell_of h.l1]; rfl
      cases hp : prs (splitP tl) with
      | none =>
        rw [hp] at cP
        simp only [pv] at cP
        clear h hE hmx hq hq' hw1 hw2 hs hd
        go_enter Tryz.func99, Tryz.ntmps99
        go_wp2_with (first
          | (go_at_call 69; refine cC.mono ?_; rintro e w1 ⟨rfl, nd, hw1⟩; have hb1 : Below w.heap.size w w1 := (by rw [hw1]; exact below_drewN _ _); clear hw1; have y5 := (hb1.cell (p := ⟨L5, 0, none⟩) (show L5 < w.heap.size by omega)).trans x5; have R1 := HRS.out.on hb1; have lk := hlk w1 R1.l4)
          | (go_at_call 100; refine (cP _ (HE.out.on hb1)).mono ?_; rintro e w2 ⟨hb2, rfl⟩))
        go_ret
        exact ⟨rfl, ((on1 hb1 hb2).mono (by omega)).alloc (by have := (on1 hb1 hb2).size; omega) _⟩
      | some v =>
        obtain ⟨op, lv⟩ := v
        obtain ⟨a, b, c, rfl, ho, ha, hb, hc, hm, ht⟩ := text_parse tl op lv hp
        rw [hp] at cP
        simp only [pv] at cP
        clear h hE hmx hq hq' hw1 hw2 hs hd hp ht hm
        go_enter Tryz.func99, Tryz.ntmps99
        go_wp2_with (first
          | (go_at_call 69; refine cC.mono ?_; rintro e w1 ⟨rfl, nd, hw1⟩; have hb1 : Below w.heap.size w w1 := (by rw [hw1]; exact below_drewN _ _); clear hw1; have y5 := (hb1.cell (p := ⟨L5, 0, none⟩) (show L5 < w.heap.size by omega)).trans x5; have R1 := HRS.out.on hb1; have lk := hlk w1 R1.l4)
          | (go_at_call 100; refine (cP _ (HE.out.on hb1)).mono ?_; rintro e w2 ⟨hb2, rfl⟩))
        have R2 := HRS.out.on (on1 hb1 hb2)
        have hx : Below w2.heap.size w2 (w2.alloc (.cells #[.int .u8 op, .int .u8 a, .int .u8 b, .int .u8 c] 64)) := alloc_below _ _
        have R3 := R2.on hx
        have hA := alloc_at w2 (.cells #[.int .u8 op, .int .u8 a, .int .u8 b, .int .u8 c] 64)
        have hbw : Below w.heap.size w (w2.alloc (.cells #[.int .u8 op, .int .u8 a, .int .u8 b, .int .u8 c] 64)) := on1 (on1 hb1 hb2) hx
        generalize w2.alloc (.cells #[.int .u8 op, .int .u8 a, .int .u8 b, .int .u8 c] 64) = W at *
        have HR3 : Hid (RS W B G L1 L2 L3 L4 L5 m) := R3
        obtain ⟨dp, dc, cp, cc, hg, r1, r2⟩ := R3.rows
        have y1 : W.cell? ⟨L1, 0, none⟩ = some (.pointer (some ⟨G, 0, none⟩)) := by rw [cell_of R3.l1]; rfl
        have g2 : W.cell? ⟨G, 2, none⟩ = some (.slice cp m.k cc) := by rw [cell_of hg]; rfl
        have g0 : W.cell? ⟨G, 0, none⟩ = some (.int .i64 m.n) := by rw [cell_of hg]; rfl
        have v0 : W.cell? ⟨w2.heap.size, 0, none⟩ = some (.int .u8 op) := by rw [cell_of hA]; rfl
        have v1 : W.cell? ⟨w2.heap.size, 1, none⟩ = some (.int .u8 a) := by rw [cell_of hA]; rfl
        have v2 : W.cell? ⟨w2.heap.size, 2, none⟩ = some (.int .u8 b) := by rw [cell_of hA]; rfl
        have v3 : W.cell? ⟨w2.heap.size, 3, none⟩ = some (.int .u8 c) := by rw [cell_of hA]; rfl
        have hD : Below W.heap.size W (W.alloc (.cells #[.int .u8 op, .int .u8 a, .int .u8 b, .int .u8 c] 64)).drew := (alloc_below _ _).drew
        have HO : Hid ((W.alloc (.cells #[.int .u8 op, .int .u8 a, .int .u8 b, .int .u8 c] 64)).drew.ownsRow B 64 4 (.slice cp m.k cc) m.k (byt m.cs)) := owns_below r2 hD
        have HS : Hid (Src (W.alloc (.cells #[.int .u8 op, .int .u8 a, .int .u8 b, .int .u8 c] 64)).drew (some ⟨W.heap.size, 0, none⟩) [(op : Int), a, b, c]) := (Src.four W (op : Int) a b c 64).below ((Below.refl _ _).drew)
        have hBW : B ≤ (W.alloc (.cells #[.int .u8 op, .int .u8 a, .int .u8 b, .int .u8 c] 64)).drew.heap.size := Nat.le_trans R3.ord.2.2.2.2.2.2 hD.size
        have hlt := at_lt hA
        have gW : G < W.heap.size := at_lt hg
        have lW : L1 < W.heap.size := cell_lt y1
        have oW := R3.ord.2.2.2.2.2.2
        clear hA R2 R3 r1 r2
        go_region_law (refine step_ins rfl (.tmp 39) (.tmp 41) rfl (B := B) (n := m.k) (t := m.k + 1) (c := 1) (b := W.heap.size) (off := 0) (xs := m.cs) (v := .slice cp m.k cc) (zs := [(op : Int), a, b, c]) (by first | (simp [Act.eval]; done) | simp [Act.eval, Act.put]) (by first | (simp [Act.eval]; done) | simp [Act.eval, Act.put]) rfl rfl HO.out HS.out (by omega) hBW ?_; intro p9 c9 w9 O9 G9; have L9 : Below B W w9 := ((hD.mono (show B ≤ W.heap.size by omega)).trans (own_grown HO.out G9.out hBW)); have T9 : Tb 64 W w9 := ((Tb.of hD).trans (Tb.grown HO.out G9.out)); have z1 := (L9.cell (p := ⟨L1, 0, none⟩) (show L1 < B by omega)).trans y1; have z2 := (L9.cell (p := ⟨G, 2, none⟩) (show G < B by omega)).trans g2; have zf := free_of ((L9.block G (by omega)).trans hg) 2; have z0 := (L9.cell (p := ⟨G, 0, none⟩) (show G < B by omega)).trans g0)
        all_goals
          go_wp2
          go_ret
          exact ⟨rfl, HR3.out.code L9 T9 ⟨⟨by omega, by omega⟩, ha, hb, hc⟩ O9.out, ((hbw.mono (show G ≤ w.heap.size by omega)).trans (L9.mono (show G ≤ B by omega))).setCell (Nat.le_refl _) _⟩
end Go.Proofs.YtcjghnnliepjjaaGreatDoor
