/- What the document's own answer for regions (package timekeeperref04) answers, by the same plain lists of bytes. -/
import Derived.Test.YthglgpiaffgnfaaDoorOwn
namespace Go.Proofs.YthglgpiaffgnfaaDoor
open Go Go.RowKit
set_option maxRecDepth 100000
set_option linter.unusedVariables false
/-- the document's region at block q, its bytes at h -/
structure Ref (w : World) (q h : Nat) (zs : List Int) : Prop where
  head : w.heap[q]? = some (.cells #[.slice (some ⟨h, 0, none⟩) zs.length zs.length] 59 (0, 0))
  row : Row w h zs
  len : zs.length ≤ 4096
  wf : isB zs
  ne : q ≠ h
theorem Ref.below {w w' : World} {p g : Nat} {zs : List Int} (h : Ref w p g zs) (hb : Below w.heap.size w w') : Ref w' p g zs :=
  ⟨(hb.block p (at_lt h.head)).trans h.head, (hb.block g h.row.lt).trans h.row, h.len, h.wf, h.ne⟩
theorem Ref.but {w w' : World} {p g k : Nat} {zs : List Int} (h : Ref w p g zs) (hb : But k w w') (hp : p ≠ k) (hg : g ≠ k) : Ref w' p g zs :=
  ⟨(hb.block p (at_lt h.head) hp).trans h.head, (hb.block g h.row.lt hg).trans h.row, h.len, h.wf, h.ne⟩
theorem Ref.cell {w : World} {p g : Nat} {zs : List Int} (h : Ref w p g zs) : w.cell? ⟨p, 0, none⟩ = some (.slice (some ⟨g, 0, none⟩) zs.length zs.length) := by rw [cell_of h.head]; rfl
theorem Row.frozen' {w : World} {g : Nat} {zs : List Int} (h : Row w g zs) (i : Nat) : w.frozen? ⟨g, i, none⟩ = false := by
  unfold Row at h; simp [World.frozen?, h]
theorem Ref.set {w : World} {p g k : Nat} {zs : List Int} (h : Ref w p g zs) {v : Int} (hv : 0 ≤ v ∧ v ≤ 255) : Ref (w.setCell ⟨g, k, none⟩ (.int .u8 v)) p g (zs.set k v) :=
  ⟨by rw [(But.setCell w g k _).block p (at_lt h.head) h.ne, List.length_set]; exact h.head, h.row.set v, by rw [List.length_set]; exact h.len, isB_set h.wf k hv, h.ne⟩

theorem rbyte_yes {w : World} {p g : Nat} {zs : List Int} (h : Ref w p g zs) (k : Nat) (hat : k < zs.length) :
    Calls Tryd.prog 15 #[.pointer (some ⟨p, 0, none⟩), .int .u32 k] w fun e w' => e = .returned (.tuple #[.int .u8 (zs.getD k 0), .int .i64 0]) ∧ w' = w := by
  have h1 := h.row.cell k hat
  have h0 := h.cell
  have hl := h.len
  generalize zs.getD k 0 = z at *
  generalize zs.length = n at *
  go_enter Tryd.func15, Tryd.ntmps15
  go_wp2
  go_ret2
  exact ⟨rfl, rfl⟩
theorem rbyte_no {w : World} {p g : Nat} {zs : List Int} (h : Ref w p g zs) (k : Int) (hk : 0 ≤ k ∧ k ≤ 4294967295) (hat : zs.length ≤ k) :
    Calls Tryd.prog 15 #[.pointer (some ⟨p, 0, none⟩), .int .u32 k] w fun e w' => e = .returned (.tuple #[.int .u8 0, .int .i64 4]) ∧ w' = w := by
  have h0 := h.cell
  have hl := h.len
  clear h
  generalize zs.length = n at *
  go_enter Tryd.func15, Tryd.ntmps15
  go_wp2
  go_ret2
  exact ⟨rfl, rfl⟩
theorem rsetByte_yes {w : World} {p g : Nat} {zs : List Int} (h : Ref w p g zs) (k : Nat) (hat : k < zs.length) (v : Int) (hv : 0 ≤ v ∧ v ≤ 255) :
    Calls Tryd.prog 11 #[.pointer (some ⟨p, 0, none⟩), .int .u32 k, .int .u8 v] w fun e w' => e = .returned (.int .i64 0) ∧ Ref w' p g (zs.set k v) ∧ But g w w' := by
  have h1 := h.row.cell k hat
  have h2 := h.row.frozen' k
  have h0 := h.cell
  have hl := h.len
  have HF := h.set (k := k) hv
  have HF' : Hid _ := HF
  clear HF h
  generalize zs.getD k 0 = z at *
  generalize zs.length = n at *
  go_enter Tryd.func11, Tryd.ntmps11
  go_wp2
  go_ret
  exact ⟨rfl, HF'.out, But.setCell w g k _⟩
theorem rsetByte_no {w : World} {p g : Nat} {zs : List Int} (h : Ref w p g zs) (k : Int) (hk : 0 ≤ k ∧ k ≤ 4294967295) (hat : zs.length ≤ k) (v : Int) :
    Calls Tryd.prog 11 #[.pointer (some ⟨p, 0, none⟩), .int .u32 k, .int .u8 v] w fun e w' => e = .returned (.int .i64 4) ∧ w' = w := by
  have h0 := h.cell
  have hl := h.len
  clear h
  generalize zs.length = n at *
  go_enter Tryd.func11, Tryd.ntmps11
  go_wp2
  go_ret
  exact ⟨rfl, rfl⟩
theorem rword_no {w : World} {p g : Nat} {zs : List Int} (h : Ref w p g zs) (k : Int) (hk : 0 ≤ k ∧ k ≤ 4294967295) (hat : zs.length < k + 4) :
    Calls Tryd.prog 13 #[.pointer (some ⟨p, 0, none⟩), .int .u32 k] w fun e w' => e = .returned (.tuple #[.int .u32 0, .int .i64 4]) ∧ w' = w := by
  have h0 := h.cell
  have hl := h.len
  clear h
  generalize zs.length = n at *
  go_enter Tryd.func13, Tryd.ntmps13
  go_wp2
  go_ret2
  exact ⟨rfl, rfl⟩
theorem rsetWord_no {w : World} {p g : Nat} {zs : List Int} (h : Ref w p g zs) (k : Int) (hk : 0 ≤ k ∧ k ≤ 4294967295) (hat : zs.length < k + 4) (v : Int) :
    Calls Tryd.prog 9 #[.pointer (some ⟨p, 0, none⟩), .int .u32 k, .int .u32 v] w fun e w' => e = .returned (.int .i64 4) ∧ w' = w := by
  have h0 := h.cell
  have hl := h.len
  clear h
  generalize zs.length = n at *
  go_enter Tryd.func9, Tryd.ntmps9
  go_wp2
  go_ret
  exact ⟨rfl, rfl⟩
theorem rword_yes {w : World} {p g : Nat} {zs : List Int} (h : Ref w p g zs) (k : Nat) (hat : k + 4 ≤ zs.length) :
    Calls Tryd.prog 13 #[.pointer (some ⟨p, 0, none⟩), .int .u32 k] w fun e w' => e = .returned (.tuple #[.int .u32 (wv ((zs.drop k).take 4)), .int .i64 0]) ∧ w' = w := by
  have c0 := h.row.cell k (by omega)
  have c1 := h.row.cell (k + 1) (by omega)
  have c2 := h.row.cell (k + 2) (by omega)
  have c3 := h.row.cell (k + 3) (by omega)
  have b0 := isB_at h.wf k
  have b1 := isB_at h.wf (k + 1)
  have b2 := isB_at h.wf (k + 2)
  have b3 := isB_at h.wf (k + 3)
  have F : Hid ((zs.drop k).take 4 = [zs.getD k 0, zs.getD (k + 1) 0, zs.getD (k + 2) 0, zs.getD (k + 3) 0]) := four_of hat
  have h0 := h.cell
  have hl := h.len
  rw [F.out]
  clear F h
  generalize zs.getD k 0 = z0 at *
  generalize zs.getD (k + 1) 0 = z1 at *
  generalize zs.getD (k + 2) 0 = z2 at *
  generalize zs.getD (k + 3) 0 = z3 at *
  generalize zs.length = n at *
  go_enter Tryd.func13, Tryd.ntmps13
  go_wp2
  go_loop [6, 7] (fun n i => (i = .int .u32 0 ∧ n = .int .u32 0) ∨ (i = .int .u32 1 ∧ n = .int .u32 z0) ∨ (i = .int .u32 2 ∧ n = .int .u32 (256 * z0 + z1)) ∨ (i = .int .u32 3 ∧ n = .int .u32 (256 * (256 * z0 + z1) + z2)) ∨ (i = .int .u32 4 ∧ n = .int .u32 (256 * (256 * (256 * z0 + z1) + z2) + z3))) (fun _ i => 4 - (intOf i).toNat)
  case atStart => exact Or.inl ⟨rfl, rfl⟩
  case round =>
    rcases hrel with ⟨rfl, rfl⟩ | ⟨rfl, rfl⟩ | ⟨rfl, rfl⟩ | ⟨rfl, rfl⟩ | ⟨rfl, rfl⟩
    · go_wp2
      go_round
      case rel => exact Or.inr (Or.inl ⟨rfl, by go_num⟩)
      case measure => simp [intOf]
    · go_wp2
      go_round
      case rel => exact Or.inr (Or.inr (Or.inl ⟨rfl, by go_num⟩))
      case measure => simp [intOf]
    · go_wp2
      go_round
      case rel => exact Or.inr (Or.inr (Or.inr (Or.inl ⟨rfl, by go_num⟩)))
      case measure => simp [intOf]
    · go_wp2
      go_round
      case rel => exact Or.inr (Or.inr (Or.inr (Or.inr ⟨rfl, by go_num⟩)))
      case measure => simp [intOf]
    · go_wp2
      go_ret2
      exact ⟨ret_n2 (by simp [wv]; omega) _, rfl⟩
theorem set4r (zs : List Int) (k : Nat) (a b c d : Int) (h : k + 4 ≤ zs.length) : (((zs.set (k + 3) d).set (k + 2) c).set (k + 1) b).set k a = splice zs k [a, b, c, d] := by
  rw [← set4 zs k a b c d h]
  rw [List.set_comm d c (by omega), List.set_comm d b (by omega), List.set_comm d a (by omega), List.set_comm c b (by omega), List.set_comm c a (by omega), List.set_comm b a (by omega)]
set_option maxHeartbeats 1000000 in
theorem rsetWord_yes {w : World} {p g : Nat} {zs : List Int} (h : Ref w p g zs) (k : Nat) (hat : k + 4 ≤ zs.length) (v : Int) (hv : 0 ≤ v ∧ v ≤ 4294967295) :
    Calls Tryd.prog 9 #[.pointer (some ⟨p, 0, none⟩), .int .u32 k, .int .u32 v] w fun e w' => e = .returned (.int .i64 0) ∧ Ref w' p g (Go.splice zs k (bs4 v)) ∧ But g w w' := by
  have h0 := h.cell
  have hl := h.len
  obtain ⟨n, hn⟩ : ∃ n, zs.length = n := ⟨_, rfl⟩
  rw [hn] at h0 hl hat
  have HN : Hid (zs.length = n) := hn
  clear hn
  have HR : Hid (Ref w p g zs) := h
  clear h
  have HS : Hid ((((zs.set (k + 3) (v % 256)).set (k + 2) (v / 256 % 256)).set (k + 1) (v / 256 / 256 % 256)).set k (v / 256 / 256 / 256 % 256) = Go.splice zs k (bs4 v)) := by
    show _ = _
    rw [set4r _ _ _ _ _ _ (by rw [HN.out]; omega), show v / 256 / 256 % 256 = v / 65536 % 256 by omega, show v / 256 / 256 / 256 % 256 = v / 16777216 by omega]
    rfl
  go_enter Tryd.func9, Tryd.ntmps9
  go_wp2
  go_loopg [2, 7] 4 (fun gk s2 s7 wx => ∃ (i : Nat) (u : Int) (ys : List Int), i + gk = 4 ∧ s7 = .int .u32 i ∧ s2 = .int .u32 u ∧ (0 ≤ u ∧ u ≤ 4294967295) ∧ But g w wx ∧ Hid (Ref wx p g ys) ∧ Hid (ys.length = n) ∧ Hid ((i = 0 ∧ u = v ∧ ys = zs) ∨ (i = 1 ∧ u = v / 256 ∧ ys = zs.set (k + 3) (v % 256)) ∨ (i = 2 ∧ u = v / 256 / 256 ∧ ys = (zs.set (k + 3) (v % 256)).set (k + 2) (v / 256 % 256)) ∨ (i = 3 ∧ u = v / 256 / 256 / 256 ∧ ys = ((zs.set (k + 3) (v % 256)).set (k + 2) (v / 256 % 256)).set (k + 1) (v / 256 / 256 % 256)) ∨ (i = 4 ∧ ys = (((zs.set (k + 3) (v % 256)).set (k + 2) (v / 256 % 256)).set (k + 1) (v / 256 / 256 % 256)).set k (v / 256 / 256 / 256 % 256))))
  case atStart => exact ⟨0, v, zs, by omega, rfl, rfl, hv, But.of (Below.refl _ _), HR, HN, Or.inl ⟨rfl, rfl, rfl⟩⟩
  case round =>
    clear HR
    obtain ⟨i, u, ys, hig, rfl, rfl, hu, hU, HR, HL, HC⟩ := hrel
    have h1 : wr.cell? ⟨p, 0, none⟩ = some (.slice (some ⟨g, 0, none⟩) n n) := by rw [HR.out.cell, HL.out]
    cases gk with
    | zero =>
      obtain rfl : i = 4 := by omega
      go_wp2
      go_ret
      refine ⟨rfl, ?_, hU⟩
      have hys : ys = Go.splice zs k (bs4 v) := by
        rcases HC.out with ⟨h, _⟩ | ⟨h, _⟩ | ⟨h, _⟩ | ⟨h, _⟩ | ⟨_, h⟩
        · omega
        · omega
        · omega
        · omega
        · rw [h, HS.out]
      rw [← hys]
      exact HR.out
    | succ g2 =>
      have hi : i < 4 := by omega
      obtain ⟨j, hj⟩ : ∃ j : Nat, (k : Int) + 3 - i = j := ⟨k + 3 - i, by omega⟩
      have hjn : j < n := by omega
      have hjk : j = k + 3 - i := by omega
      have HJ : Hid (j = k + 3 - i) := hjk
      clear hjk
      have c1 := HR.out.row.cell j (by rw [HL.out]; omega)
      have f1 := HR.out.row.frozen' j
      have HR2 : Hid _ := HR.out.set (k := j) (v := u % 256) (by omega)
      generalize ys.getD j 0 = z at *
      have hlt : (i : Int) < 4 := by omega
      go_wp2
      go_roundg g2
      case measure => omega
      case rel =>
        refine ⟨i + 1, u / 256, ys.set j (u % 256), by omega, by go_num, rfl, by omega, hU.trans (But.setCell _ _ _ _), HR2.out, by show _ = _; rw [List.length_set]; exact HL.out, ?_⟩
        show _ ∨ _
        have hJ := HJ.out
        rcases HC.out with ⟨rfl, rfl, rfl⟩ | ⟨rfl, rfl, rfl⟩ | ⟨rfl, rfl, rfl⟩ | ⟨rfl, rfl, rfl⟩ | ⟨h, _⟩
        · rw [hJ]; exact Or.inr (Or.inl ⟨rfl, rfl, rfl⟩)
        · rw [hJ]; exact Or.inr (Or.inr (Or.inl ⟨rfl, rfl, rfl⟩))
        · rw [hJ]; exact Or.inr (Or.inr (Or.inr (Or.inl ⟨rfl, rfl, rfl⟩)))
        · rw [hJ]; exact Or.inr (Or.inr (Or.inr (Or.inr ⟨rfl, rfl⟩)))
        · omega
end Go.Proofs.YthglgpiaffgnfaaDoor
