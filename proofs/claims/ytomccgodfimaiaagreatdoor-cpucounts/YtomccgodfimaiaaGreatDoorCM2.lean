/- What a core in memory tells cell by cell; what stays; what one store makes of it. No law of the program itself. -/
import Derived.Test.YtomccgodfimaiaaGreatDoorCMem
namespace Go.Proofs.YtomccgodfimaiaaGreatDoor
set_option linter.all false
open Go Go.RowKit
set_option maxRecDepth 100000
set_option linter.unusedVariables false
theorem CM.cell {w : World} {G : Kp} {cv : Value} {c : Cr} (h : CM w G cv c) (i : Nat) {v : Value} (hv : (hdC G cv c)[i]? = some v) : w.cell? ⟨G.p, i, none⟩ = some v := by
  rw [cell_of h.head]; simpa using hv
theorem CM.fz {w : World} {G : Kp} {cv : Value} {c : Cr} (h : CM w G cv c) (i : Nat) : w.frozen? ⟨G.p, i, none⟩ = false := by simp [World.frozen?, h.head]
theorem CM.r {w : World} {G : Kp} {cv : Value} {c : Cr} (h : CM w G cv c) (i : Nat) (hi : i < 8) : w.cell? ⟨G.p, i, none⟩ = some (.int .u32 (c.rs.getD i 0)) := by
  have hl := h.rl
  refine h.cell i ?_
  unfold hdC
  rw [List.getElem?_append_left (by simp; omega)]
  simp [show i < c.rs.length by omega]
theorem hd_at (G : Kp) (cv : Value) (c : Cr) (hl : c.rs.length = 8) (j : Nat) : (hdC G cv c)[8 + j]? = ([.int .i64 c.pc, .pointer (some ⟨G.q, 0, none⟩), .slice G.cp G.k G.kc, cv, .bool c.asked, .map (some G.mb)] : List Value)[j]? := by
  unfold hdC
  rw [List.getElem?_append_right (by simp; omega)]
  simp [hl]
theorem CM.c8 {w : World} {G : Kp} {cv : Value} {c : Cr} (h : CM w G cv c) : w.cell? ⟨G.p, 8, none⟩ = some (.int .i64 c.pc) := h.cell 8 (hd_at G cv c h.rl 0)
theorem CM.c9 {w : World} {G : Kp} {cv : Value} {c : Cr} (h : CM w G cv c) : w.cell? ⟨G.p, 9, none⟩ = some (.pointer (some ⟨G.q, 0, none⟩)) := h.cell 9 (hd_at G cv c h.rl 1)
theorem CM.c10 {w : World} {G : Kp} {cv : Value} {c : Cr} (h : CM w G cv c) : w.cell? ⟨G.p, 10, none⟩ = some (.slice G.cp G.k G.kc) := h.cell 10 (hd_at G cv c h.rl 2)
theorem CM.c11 {w : World} {G : Kp} {cv : Value} {c : Cr} (h : CM w G cv c) : w.cell? ⟨G.p, 11, none⟩ = some cv := h.cell 11 (hd_at G cv c h.rl 3)
theorem CM.c12 {w : World} {G : Kp} {cv : Value} {c : Cr} (h : CM w G cv c) : w.cell? ⟨G.p, 12, none⟩ = some (.bool c.asked) := h.cell 12 (hd_at G cv c h.rl 4)
theorem CM.c13 {w : World} {G : Kp} {cv : Value} {c : Cr} (h : CM w G cv c) : w.cell? ⟨G.p, 13, none⟩ = some (.map (some G.mb)) := h.cell 13 (hd_at G cv c h.rl 5)
theorem CM.plt {w : World} {G : Kp} {cv : Value} {c : Cr} (h : CM w G cv c) : G.p < w.heap.size := at_lt h.head
theorem CM.coded {w : World} {G : Kp} {cv : Value} {c : Cr} (h : CM w G cv c) {b : Nat} (hb : (Value.slice G.cp G.k G.kc).ownBlock = some b) : ∃ cur, w.heap[b]? = some (.cells cur 70 (0, 0)) := by
  rcases h.code.2 with ⟨e, _⟩ | ⟨g, cap, cur, e, _, hh, _⟩
  · rw [e] at hb; simp [Value.ownBlock] at hb
  · rw [e] at hb
    obtain rfl : g = b := by simpa [Value.ownBlock] using hb
    exact ⟨cur, hh⟩
theorem CM.gt {w : World} {G : Kp} {cv : Value} {c : Cr} (h : CM w G cv c) : w.heap[G.g]? = some (.cells (Rn.byt c.zs).toArray 5 (0, 0)) := h.reg.row
theorem CM.pq {w : World} {G : Kp} {cv : Value} {c : Cr} (h : CM w G cv c) : G.q ≠ G.p := by
  intro e
  have h1 := h.reg.head
  rw [e, h.head] at h1
  simp at h1
theorem CM.pg {w : World} {G : Kp} {cv : Value} {c : Cr} (h : CM w G cv c) : G.g ≠ G.p := by
  intro e
  have h1 := h.gt
  rw [e, h.head] at h1
  simp at h1
theorem CM.pm {w : World} {G : Kp} {cv : Value} {c : Cr} (h : CM w G cv c) : G.mb ≠ G.p := by
  intro e
  obtain ⟨ck, h1⟩ := h.map
  rw [e, h.head] at h1
  cases h1
theorem CM.gm {w : World} {G : Kp} {cv : Value} {c : Cr} (h : CM w G cv c) : G.mb ≠ G.g := by
  intro e
  obtain ⟨ck, h1⟩ := h.map
  rw [e, h.gt] at h1
  cases h1
theorem CM.qg {w : World} {G : Kp} {cv : Value} {c : Cr} (h : CM w G cv c) : G.q ≠ G.g := h.reg.ne
theorem CM.kp {w : World} {G : Kp} {cv : Value} {c : Cr} (h : CM w G cv c) {b : Nat} (hb : (Value.slice G.cp G.k G.kc).ownBlock = some b) : b ≠ G.p := by
  rintro rfl
  obtain ⟨cur, h1⟩ := h.coded hb
  rw [h.head] at h1
  simp at h1
theorem CM.kg {w : World} {G : Kp} {cv : Value} {c : Cr} (h : CM w G cv c) {b : Nat} (hb : (Value.slice G.cp G.k G.kc).ownBlock = some b) : b ≠ G.g := by
  rintro rfl
  obtain ⟨cur, h1⟩ := h.coded hb
  rw [h.gt] at h1
  simp at h1
theorem Part.typ {w : World} {v : Value} {xs : List Int} (h : Part w v xs) {g K : Nat} {cs : Array Value} {t : TypeId} {f : Nat × Nat} (hg : v.ownBlock = some g) (hK : w.heap[K]? = some (.cells cs t f)) (ht : t ≠ 5) : g ≠ K := by
  rintro rfl
  obtain ⟨_, cur, h1⟩ := h.lt hg
  rw [hK] at h1
  simp only [Option.some.injEq, Obj.cells.injEq] at h1
  exact ht h1.2.1
theorem CM.vp {w : World} {G : Kp} {cv : Value} {c : Cr} (h : CM w G cv c) {b : Nat} (hb : cv.ownBlock = some b) : b ≠ G.p := h.con.typ hb h.head (by decide)
theorem CM.vq {w : World} {G : Kp} {cv : Value} {c : Cr} (h : CM w G cv c) {b : Nat} (hb : cv.ownBlock = some b) : b ≠ G.q := h.con.typ hb h.reg.head (by decide)
theorem CM.vg {w : World} {G : Kp} {cv : Value} {c : Cr} (h : CM w G cv c) {b : Nat} (hb : cv.ownBlock = some b) : b ≠ G.g := fun e => h.cone (e ▸ hb)
theorem CM.vm {w : World} {G : Kp} {cv : Value} {c : Cr} (h : CM w G cv c) {b : Nat} (hb : cv.ownBlock = some b) : b ≠ G.mb := by
  rintro rfl
  obtain ⟨_, cur, h1⟩ := h.con.lt hb
  obtain ⟨ck, h2⟩ := h.map
  rw [h2] at h1
  cases h1
theorem CM.vk {w : World} {G : Kp} {cv : Value} {c : Cr} (h : CM w G cv c) {b d : Nat} (hb : cv.ownBlock = some b) (hd : (Value.slice G.cp G.k G.kc).ownBlock = some d) : b ≠ d := by
  obtain ⟨cur, h1⟩ := h.coded hd
  exact h.con.typ hb h1 (by decide)
/-- the blocks that a core's steps write: its own, its bytes, its console -/
def ownL (G : Kp) (cv : Value) : List Nat := G.p :: G.g :: cv.ownBlock.toList
theorem CM.buts {w w' : World} {G : Kp} {cv : Value} {c : Cr} {l : List Nat} (h : CM w G cv c) (hb : Buts l w w') (hp : G.p ∉ l) (hq : G.q ∉ l) (hg : G.g ∉ l) (hm : G.mb ∉ l)
    (hk : ∀ b, (Value.slice G.cp G.k G.kc).ownBlock = some b → b ∉ l) (hv : ∀ b, cv.ownBlock = some b → b ∉ l) : CM w' G cv c where
  head := (hb.block _ h.plt hp).trans h.head
  reg := ⟨(hb.block _ (at_lt h.reg.head) hq).trans h.reg.head, (hb.block _ (at_lt h.gt) hg).trans h.gt, h.reg.len, h.reg.wf, h.reg.ne⟩
  code := owns_buts h.code hb hk
  clen := h.clen
  cb := h.cb
  cok := h.cok
  map := by obtain ⟨ck, h1⟩ := h.map; exact ⟨ck, (hb.block _ (at_lt h1) hm).trans h1⟩
  con := h.con.buts hb hv
  conb := h.conb
  conl := h.conl
  cone := h.cone
  rl := h.rl
  rn := h.rn
  k := h.k
  pc := h.pc
theorem CM.below {w w' : World} {G : Kp} {cv : Value} {c : Cr} (h : CM w G cv c) (hb : Below w.heap.size w w') : CM w' G cv c :=
  h.buts (l := []) (Buts.of hb) (by simp) (by simp) (by simp) (by simp) (fun _ _ => by simp) (fun _ _ => by simp)
theorem CM.drew {w : World} {G : Kp} {cv : Value} {c : Cr} (h : CM w G cv c) : CM w.drew G cv c := h.below (Below.refl _ _).drew
theorem CM.one {w : World} {G : Kp} {cv : Value} {c : Cr} (h : CM w G cv c) (x : Obj) : CM (w.alloc x) G cv c := h.below (alloc_below w x)
/-- one store in a core's own block -/
theorem CM.put {w : World} {G : Kp} {cv cv' : Value} {c c' : Cr} (h : CM w G cv c) (i : Nat) (v : Value) (he : (hdC G cv c).set i v = hdC G cv' c') (hz : c'.zs = c.zs) (hcs : c'.cs = c.cs)
    (hcon : Part w cv' c'.con) (hconb : Bs c'.con) (hconl : c'.con.length ≤ 257) (hcone : cv'.ownBlock ≠ some G.g) (hvp : ∀ b, cv'.ownBlock = some b → b ≠ G.p) (hrl : c'.rs.length = 8) (hrn : ∀ z ∈ c'.rs, Un.num z) (hpc : -128 ≤ c'.pc ∧ c'.pc ≤ 65535) :
    CM (w.setCell ⟨G.p, i, none⟩ v) G cv' c' where
  head := by
    have hl := h.plt
    have hv : w.heap[G.p] = .cells (hdC G cv c).toArray 83 (0, 0) := (Array.getElem?_eq_some_iff.1 h.head).2
    unfold World.setCell
    rw [Array.getElem?_eq_getElem (by simpa using hl), Array.getElem_modify]
    simp [hv, he]
  reg := by
    have hb := Buts.cell w G.p i v
    rw [hz]
    exact ⟨(hb.block _ (at_lt h.reg.head) (by simpa using h.pq)).trans h.reg.head, (hb.block _ (at_lt h.gt) (by simpa using h.pg)).trans h.gt, h.reg.len, h.reg.wf, h.reg.ne⟩
  code := by rw [hcs]; exact owns_buts h.code (Buts.cell w G.p i v) (fun b hb => by simpa using h.kp hb)
  clen := by rw [hcs]; exact h.clen
  cb := by rw [hcs]; exact h.cb
  cok := by rw [hcs]; exact h.cok
  map := by
    obtain ⟨ck, h1⟩ := h.map
    exact ⟨ck, ((Buts.cell w G.p i v).block _ (at_lt h1) (by simpa using h.pm)).trans h1⟩
  con := hcon.buts (Buts.cell w G.p i v) (fun b hb => by simpa using hvp b hb)
  conb := hconb
  conl := hconl
  cone := hcone
  rl := hrl
  rn := hrn
  k := h.k
  pc := hpc
theorem hd_set (G : Kp) (cv : Value) (c : Cr) (hl : c.rs.length = 8) (j : Nat) (v : Value) : (hdC G cv c).set (8 + j) v = c.rs.map (Value.int .u32) ++ ([.int .i64 c.pc, .pointer (some ⟨G.q, 0, none⟩), .slice G.cp G.k G.kc, cv, .bool c.asked, .map (some G.mb)] : List Value).set j v := by
  unfold hdC
  rw [List.set_append_right _ _ (by simp; omega)]
  simp [hl]
theorem num_set {rs : List Int} (h : ∀ z ∈ rs, Un.num z) (i : Nat) {v : Int} (hv : Un.num v) : ∀ z ∈ rs.set i v, Un.num z := fun z hz => by
  rcases List.mem_or_eq_of_mem_set hz with hz | rfl
  · exact h z hz
  · exact hv
theorem CM.setR {w : World} {G : Kp} {cv : Value} {c : Cr} (h : CM w G cv c) (i : Nat) (hi : i < 8) {v : Int} (hv : Un.num v) : CM (w.setCell ⟨G.p, i, none⟩ (.int .u32 v)) G cv { c with rs := c.rs.set i v } :=
  h.put i _ (by
    have hl := h.rl
    unfold hdC
    rw [List.set_append_left _ _ (by simp; omega), List.map_set]) rfl rfl h.con h.conb h.conl h.cone (fun b hb => h.vp hb) (by simpa using h.rl) (num_set h.rn i hv) h.pc
theorem CM.setPc {w : World} {G : Kp} {cv : Value} {c : Cr} (h : CM w G cv c) {v : Int} (hv : -128 ≤ v ∧ v ≤ 65535) : CM (w.setCell ⟨G.p, 8, none⟩ (.int .i64 v)) G cv { c with pc := v } :=
  h.put 8 _ (hd_set G cv c h.rl 0 _) rfl rfl h.con h.conb h.conl h.cone (fun b hb => h.vp hb) h.rl h.rn hv
theorem CM.setAsk {w : World} {G : Kp} {cv : Value} {c : Cr} (h : CM w G cv c) (b : Bool) : CM (w.setCell ⟨G.p, 12, none⟩ (.bool b)) G cv { c with asked := b } :=
  h.put 12 _ (hd_set G cv c h.rl 4 _) rfl rfl h.con h.conb h.conl h.cone (fun b hb => h.vp hb) h.rl h.rn h.pc
theorem CM.setCon {w : World} {G : Kp} {cv cv' : Value} {c : Cr} {l : List Int} (h : CM w G cv c) (hp : Part w cv' l) (hb : Bs l) (hl : l.length ≤ 257) (hg : cv'.ownBlock ≠ some G.g) : CM (w.setCell ⟨G.p, 11, none⟩ cv') G cv' { c with con := l } :=
  h.put 11 _ (hd_set G cv c h.rl 3 _) rfl rfl hp hb hl hg (fun b hb => hp.typ hb h.head (by decide)) h.rl h.rn h.pc
/-- other bytes in a core's region -/
theorem CM.setReg {w w' : World} {G : Kp} {cv : Value} {c : Cr} {zs' : List Int} (h : CM w G cv c) (hr : Rn.Reg w' G.q G.g zs') (hb : Rn.But G.g w w') : CM w' G cv { c with zs := zs' } where
  head := (hb.block _ h.plt (Ne.symm h.pg)).trans h.head
  reg := hr
  code := owns_buts h.code (Buts.of_but hb) (fun b hb => by simpa using h.kg hb)
  clen := h.clen
  cb := h.cb
  cok := h.cok
  map := by obtain ⟨ck, h1⟩ := h.map; exact ⟨ck, (hb.block _ (at_lt h1) h.gm).trans h1⟩
  con := h.con.buts (Buts.of_but hb) (fun b hb => by simpa using h.vg hb)
  conb := h.conb
  conl := h.conl
  cone := h.cone
  rl := h.rl
  rn := h.rn
  k := h.k
  pc := h.pc
theorem CM.rnum {w : World} {G : Kp} {cv : Value} {c : Cr} (h : CM w G cv c) (i : Nat) : Un.num (c.rs.getD i 0) := by
  by_cases hi : i < c.rs.length
  · rw [show c.rs.getD i 0 = c.rs[i] by simp [hi]]; exact h.rn _ (List.getElem_mem hi)
  · rw [show c.rs.getD i 0 = 0 by simp [Nat.le_of_not_lt hi]]; exact ⟨by decide, by decide⟩
/-- a longer console, and its slice stored -/
theorem CM.grow {w w4 : World} {G : Kp} {cv cv4 : Value} {c : Cr} {l : List Int} (h : CM w G cv c) (hb : Buts cv.ownBlock.toList w w4) (hp : Part w4 cv4 l) (hn : ∀ g, cv4.ownBlock = some g → cv.ownBlock = some g ∨ w.heap.size ≤ g) (hbs : Bs l) (hl : l.length ≤ 257) :
    CM (w4.setCell ⟨G.p, 11, none⟩ cv4) G cv4 { c with con := l } ∧ Buts (G.p :: cv.ownBlock.toList) w (w4.setCell ⟨G.p, 11, none⟩ cv4) := by
  have np : G.p ∉ cv.ownBlock.toList := by simpa using fun e => (h.vp e) rfl
  have nq : G.q ∉ cv.ownBlock.toList := by simpa using fun e => (h.vq e) rfl
  have ng : G.g ∉ cv.ownBlock.toList := by simpa using h.cone
  have nm : G.mb ∉ cv.ownBlock.toList := by simpa using fun e => (h.vm e) rfl
  have nk : ∀ b, (Value.slice G.cp G.k G.kc).ownBlock = some b → b ∉ cv.ownBlock.toList := fun b hb' => by simpa using fun e => (h.vk e hb') rfl
  have hd4 : w4.heap[G.p]? = _ := (hb.block _ h.plt np).trans h.head
  have hpl : G.p < w4.heap.size := at_lt hd4
  have hbc := Buts.cell w4 G.p 11 cv4
  have hvp : ∀ b, cv4.ownBlock = some b → b ≠ G.p := fun b hb' => by
    rcases hn b hb' with e | e
    · exact h.vp e
    · have := h.plt; omega
  refine ⟨{ head := ?_, reg := ?_, code := ?_, clen := h.clen, cb := h.cb, cok := h.cok, map := ?_, con := ?_, conb := hbs, conl := hl, cone := ?_, rl := h.rl, rn := h.rn, k := h.k, pc := h.pc }, ?_⟩
  · have hv : w4.heap[G.p] = .cells (hdC G cv c).toArray 83 (0, 0) := (Array.getElem?_eq_some_iff.1 hd4).2
    unfold World.setCell
    rw [Array.getElem?_eq_getElem (by simpa using hpl), Array.getElem_modify]
    have := hd_set G cv c h.rl 3 cv4
    simp [hv]
    simpa [hdC] using this
  · have e1 := (hb.block _ (at_lt h.reg.head) nq).trans h.reg.head
    have e2 := (hb.block _ (at_lt h.gt) ng).trans h.gt
    exact ⟨(hbc.block _ (at_lt e1) (by simpa using h.pq)).trans e1, (hbc.block _ (at_lt e2) (by simpa using h.pg)).trans e2, h.reg.len, h.reg.wf, h.reg.ne⟩
  · exact owns_buts (owns_buts h.code hb nk) hbc (fun b hb' => by simpa using h.kp hb')
  · obtain ⟨ck, h1⟩ := h.map
    have e1 := (hb.block _ (at_lt h1) nm).trans h1
    exact ⟨ck, (hbc.block _ (at_lt e1) (by simpa using h.pm)).trans e1⟩
  · exact hp.buts hbc (fun b hb' => by simpa using hvp b hb')
  · intro e
    rcases hn _ e with e' | e'
    · exact h.cone e'
    · have := at_lt h.gt; omega
  · exact (hb.mono (fun x hx => List.mem_cons_of_mem _ hx)).trans (hbc.mono (fun x hx => by simp at hx; simp [hx]))
end Go.Proofs.YtomccgodfimaiaaGreatDoor
