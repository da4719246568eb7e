/- What is carried through 'RegionsPlay': both regions, the twin, and what came in. -/
import Derived.Test.YthglgpiaffgnfaaDoorRef2
import Derived.Test.YthglgpiaffgnfaaDoorApart
namespace Go.Proofs.YthglgpiaffgnfaaDoor
open Go Go.RowKit
set_option maxRecDepth 100000
set_option linter.unusedVariables false
theorem new_size {w : World} {B n s : Nat} {sp : Option Addr} {zs : List Int} (hs : Src B w sp zs) (hBw : B ≤ w.heap.size) (hz : zs.length = n) (hn : s ≤ 4096) (hns : n ≤ s) (c : Nat) :
    Calls Tryd.prog 5 #[.int .i64 s, .slice sp n c] w fun e w' => ∃ p g, e = .returned (.tuple #[.pointer (some ⟨p, 0, none⟩), .int .i64 0]) ∧ Reg w' p g (zs ++ List.replicate (s - n) 0) ∧ Below w.heap.size w w' ∧ w.heap.size ≤ g ∧ g < p := by
  subst hz
  exact new_yes hs hBw c s hn hns
theorem Src.pre {w : World} {g : Nat} {zs ys : List Int} (h : Row w g (zs ++ ys)) (hw : isB zs) : Src w.heap.size w (some ⟨g, 0, none⟩) zs := Src.rowPre (n := 0) h hw
/-- both regions and the twin -/
structure Two (w0 wx : World) (T p g q h s : Nat) (zs ys zt : List Int) : Prop where
  reg : Reg wx p g ys
  ref : Ref wx q h zt
  tw : Row wx T (zs ++ [77])
  bel : Below w0.heap.size w0 wx
  l1 : ys.length = s
  l2 : zt.length = s
  o1 : w0.heap.size ≤ T
  o2 : T < g
  o3 : g < p
  o4 : p < h
  o5 : h < q
theorem Two.below {w0 wx w' : World} {T p g q h s : Nat} {zs ys zt : List Int} (H : Two w0 wx T p g q h s zs ys zt) (hb : Below wx.heap.size wx w') : Two w0 w' T p g q h s zs ys zt :=
  ⟨H.reg.below hb, H.ref.below hb, (hb.block T H.tw.lt).trans H.tw, H.bel.trans (hb.mono H.bel.size), H.l1, H.l2, H.o1, H.o2, H.o3, H.o4, H.o5⟩
theorem Two.setReg {w0 wx w' : World} {T p g q h s : Nat} {zs ys zt ys' : List Int} (H : Two w0 wx T p g q h s zs ys zt) (hb : But g wx w') (hr : Reg w' p g ys') (hl : ys'.length = s) : Two w0 w' T p g q h s zs ys' zt :=
  have o1 := H.o1; have o2 := H.o2; have o3 := H.o3; have o4 := H.o4; have o5 := H.o5
  ⟨hr, H.ref.but hb (by omega) (by omega), (hb.block T H.tw.lt (by omega)).trans H.tw, H.bel.trans (hb.below (by omega) H.bel.size), hl, H.l2, o1, o2, o3, o4, o5⟩
theorem Two.setRef {w0 wx w' : World} {T p g q h s : Nat} {zs ys zt zt' : List Int} (H : Two w0 wx T p g q h s zs ys zt) (hb : But h wx w') (hr : Ref w' q h zt') (hl : zt'.length = s) : Two w0 w' T p g q h s zs ys zt' :=
  have o1 := H.o1; have o2 := H.o2; have o3 := H.o3; have o4 := H.o4; have o5 := H.o5
  ⟨H.reg.but hb (by omega) (by omega), hr, (hb.block T H.tw.lt (by omega)).trans H.tw, H.bel.trans (hb.below (by omega) H.bel.size), H.l1, hl, o1, o2, o3, o4, o5⟩
/-- what is done, one after the other: a slice that is read -/
structure Acts (B : Nat) (w : World) (sp : Option Addr) (acts : List (Int × Int × Int)) : Prop where
  spot : 0 < acts.length → ∃ b off, sp = some ⟨b, off, none⟩ ∧ b < B ∧ ∀ i x, acts[i]? = some x → w.cell? ⟨b, off + i * 3, none⟩ = some (.int .u8 x.1) ∧ w.cell? ⟨b, off + i * 3 + 1, none⟩ = some (.int .u32 x.2.1) ∧ w.cell? ⟨b, off + i * 3 + 2, none⟩ = some (.int .u32 x.2.2)
  wf : ∀ (i : Nat) (x : Int × Int × Int), acts[i]? = some x → (0 ≤ x.1 ∧ x.1 ≤ 255) ∧ (0 ≤ x.2.1 ∧ x.2.1 ≤ 4294967295) ∧ (0 ≤ x.2.2 ∧ x.2.2 ≤ 4294967295)
theorem Acts.below {B : Nat} {w w' : World} {sp : Option Addr} {acts : List (Int × Int × Int)} (h : Acts B w sp acts) (hb : Below B w w') : Acts B w' sp acts :=
  ⟨fun hz => by
    obtain ⟨b, off, e, hB, hc⟩ := h.spot hz
    exact ⟨b, off, e, hB, fun i x hi => by
      rw [hb.cell (p := ⟨b, off + i * 3, none⟩) hB, hb.cell (p := ⟨b, off + i * 3 + 1, none⟩) hB, hb.cell (p := ⟨b, off + i * 3 + 2, none⟩) hB]; exact hc i x hi⟩, h.wf⟩
theorem own_row {w : World} {B g : Nat} {zs : List Int} (h : Row w g zs) (hB : B ≤ g) (hm : zs.length ≤ 1000000) : w.ownsRow B 5 1 (.slice (some ⟨g, 0, none⟩) zs.length zs.length) zs.length (byt zs) :=
  ⟨by rw [byt_len, Nat.mul_one], Or.inr ⟨g, zs.length, (byt zs).toArray, rfl, hB, h, Nat.le_refl _, by simp only [maxLen]; omega, by simp [byt_len], by rw [List.take_of_length_le (by simp [byt_len])]⟩⟩
theorem own_twin {w : World} {B g : Nat} {zs : List Int} (h : Row w g (zs ++ [77])) (hB : B ≤ g) (hm : zs.length ≤ 1000000) : w.ownsRow B 5 1 (.slice (some ⟨g, 0, none⟩) zs.length (zs.length + 1)) zs.length (byt zs) :=
  ⟨by rw [byt_len, Nat.mul_one], Or.inr ⟨g, zs.length + 1, (byt (zs ++ [77])).toArray, rfl, hB, h, by omega, by simp only [maxLen]; omega, by simp [byt_len], by
    rw [byt_app]
    simp only [Nat.mul_one]
    rw [← byt_len zs, List.take_left']
    rfl⟩⟩
theorem Row.put {w w' : World} {B K g : Nat} {n : Int} {v : Value} {E : List Ent} {zs : List Int} (h : Row w g zs) (hb : Bk B w K n v E) (hu : Buts (K :: v.ownBlock.toList) w w') : Row w' g zs := by
  refine (hu.block g h.lt ?_).trans h
  intro hm
  rcases List.mem_cons.1 hm with rfl | hm
  · have := hb.head
    unfold Row at h
    rw [h] at this
    simp at this
  · have : v.ownBlock = some g := by simpa using hm
    exact block_ne hb.row this h (by decide) rfl
theorem Bk.put_below {w0 w w' : World} {K : Nat} {n : Int} {v : Value} {E : List Ent} (hb : Bk w0.heap.size w K n v E) (hB : Below w0.heap.size w0 w) (hu : Buts (K :: v.ownBlock.toList) w w') : Below w0.heap.size w0 w' :=
  hB.trans (hu.below (fun x hx => by
    rcases List.mem_cons.1 hx with rfl | hm
    · exact hb.base
    · exact (hb.row.lt x (by simpa using hm)).1) hB.size)
end Go.Proofs.YthglgpiaffgnfaaDoor
