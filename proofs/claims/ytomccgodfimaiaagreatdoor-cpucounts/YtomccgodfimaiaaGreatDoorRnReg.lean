/- What the functions of package regions answer, for every region in memory, every place and every number; what they make in memory is new, and what they set is the region's own row. -/
import Derived.Test.YtomccgodfimaiaaGreatDoorRnMem
import Derived.Laws.DeepBits32
namespace Go.Proofs.YtomccgodfimaiaaGreatDoor.Rn
set_option linter.all false
open Go Go.RowKit
set_option maxRecDepth 100000
set_option linter.unusedVariables false

theorem ret_sl {g m a n : Nat} (h : a = n) (r : Value) : Ending.returned (.tuple #[.slice (some ⟨g, m, none⟩) a a, r]) = .returned (.tuple #[.slice (some ⟨g, m, none⟩) n n, r]) := by rw [h]
theorem ret_n2 {k : IntKind} {a b : Int} (h : a = b) (r : Value) : Ending.returned (.tuple #[.int k a, r]) = .returned (.tuple #[.int k b, r]) := by rw [h]
theorem piece_yes {w : World} {p g : Nat} {zs : List Int} (h : Reg w p g zs) (k c : Nat) (hat : k + c ≤ zs.length) (hc : 0 < c) :
    Calls Tryz.prog 136 #[.pointer (some ⟨p, 0, none⟩), .int .u32 k, .int .u64 c] w fun e w' => e = .returned (.tuple #[.slice (some ⟨g, k, none⟩) c c, .int .i64 0]) ∧ w' = w := by
  have h0 : w.cell? ⟨p, 0, none⟩ = some (.bool true) := by rw [cell_of h.head]; rfl
  have h1 : w.cell? ⟨p, 1, none⟩ = some (.slice (some ⟨g, 0, none⟩) zs.length zs.length) := by rw [cell_of h.head]; rfl
  have hl := h.len
  clear h
  generalize zs.length = n at *
  go_enter Tryz.func136, Tryz.ntmps136
  go_wp2
  go_ret2
  exact ⟨ret_sl (by omega) _, rfl⟩
theorem piece_no {w : World} {p g : Nat} {zs : List Int} (h : Reg w p g zs) (k c : Int) (hk : 0 ≤ k ∧ k ≤ 4294967295) (hc : 0 < c ∧ c ≤ 4) (hat : zs.length < k + c) :
    Calls Tryz.prog 136 #[.pointer (some ⟨p, 0, none⟩), .int .u32 k, .int .u64 c] w fun e w' => e = .returned (.tuple #[.slice none 0 0, .int .i64 4]) ∧ w' = w := by
  have h0 : w.cell? ⟨p, 0, none⟩ = some (.bool true) := by rw [cell_of h.head]; rfl
  have h1 : w.cell? ⟨p, 1, none⟩ = some (.slice (some ⟨g, 0, none⟩) zs.length zs.length) := by rw [cell_of h.head]; rfl
  have hl := h.len
  clear h
  generalize zs.length = n at *
  go_enter Tryz.func136, Tryz.ntmps136
  go_wp2
  go_ret2
  exact ⟨rfl, rfl⟩
theorem piece_nil {w : World} (k c : Int) :
    Calls Tryz.prog 136 #[.pointer none, .int .u32 k, .int .u64 c] w fun e w' => e = .returned (.tuple #[.slice none 0 0, .int .i64 2]) ∧ w' = w := by
  go_enter Tryz.func136, Tryz.ntmps136
  go_wp2
  go_ret2
  exact ⟨rfl, rfl⟩
theorem piece_zero {w : World} {p : Nat} (h0 : w.cell? ⟨p, 0, none⟩ = some (.bool false)) (k c : Int) :
    Calls Tryz.prog 136 #[.pointer (some ⟨p, 0, none⟩), .int .u32 k, .int .u64 c] w fun e w' => e = .returned (.tuple #[.slice none 0 0, .int .i64 2]) ∧ w' = w := by
  go_enter Tryz.func136, Tryz.ntmps136
  go_wp2
  go_ret2
  exact ⟨rfl, rfl⟩

theorem byte_yes {w : World} {p g : Nat} {zs : List Int} (h : Reg w p g zs) (k : Nat) (hat : k < zs.length) :
    Calls Tryz.prog 122 #[.pointer (some ⟨p, 0, none⟩), .int .u32 k] w fun e w' => e = .returned (.tuple #[.int .u8 (zs.getD k 0), .int .i64 0]) ∧ w' = w := by
  have h1 := h.row.cell k hat
  generalize zs.getD k 0 = z at *
  go_enter Tryz.func122, Tryz.ntmps122
  go_wp2_with (go_at_call 136; refine (piece_yes h k 1 (by omega) (by omega)).mono ?_; rintro e w' ⟨rfl, rfl⟩)
  go_ret2
  exact ⟨rfl, rfl⟩
theorem byte_no {w : World} {p g : Nat} {zs : List Int} (h : Reg w p g zs) (k : Int) (hk : 0 ≤ k ∧ k ≤ 4294967295) (hat : zs.length ≤ k) :
    Calls Tryz.prog 122 #[.pointer (some ⟨p, 0, none⟩), .int .u32 k] w fun e w' => e = .returned (.tuple #[.int .u8 0, .int .i64 4]) ∧ w' = w := by
  go_enter Tryz.func122, Tryz.ntmps122
  go_wp2_with (go_at_call 136; refine (piece_no h k 1 hk (by omega) (by omega)).mono ?_; rintro e w' ⟨rfl, rfl⟩)
  go_ret2
  exact ⟨rfl, rfl⟩
theorem byte_nil {w : World} (k : Int) :
    Calls Tryz.prog 122 #[.pointer none, .int .u32 k] w fun e w' => e = .returned (.tuple #[.int .u8 0, .int .i64 2]) ∧ w' = w := by
  go_enter Tryz.func122, Tryz.ntmps122
  go_wp2_with (go_at_call 136; refine (piece_nil k 1).mono ?_; rintro e w' ⟨rfl, rfl⟩)
  go_ret2
  exact ⟨rfl, rfl⟩
theorem byte_zero {w : World} {p : Nat} (h0 : w.cell? ⟨p, 0, none⟩ = some (.bool false)) (k : Int) :
    Calls Tryz.prog 122 #[.pointer (some ⟨p, 0, none⟩), .int .u32 k] w fun e w' => e = .returned (.tuple #[.int .u8 0, .int .i64 2]) ∧ w' = w := by
  go_enter Tryz.func122, Tryz.ntmps122
  go_wp2_with (go_at_call 136; refine (piece_zero h0 k 1).mono ?_; rintro e w' ⟨rfl, rfl⟩)
  go_ret2
  exact ⟨rfl, rfl⟩

theorem setByte_yes {w : World} {p g : Nat} {zs : List Int} (h : Reg w p g zs) (k : Nat) (hat : k < zs.length) (v : Int) (hv : 0 ≤ v ∧ v ≤ 255) :
    Calls Tryz.prog 123 #[.pointer (some ⟨p, 0, none⟩), .int .u32 k, .int .u8 v] w fun e w' => e = .returned (.int .i64 0) ∧ Reg w' p g (zs.set k v) ∧ But g w w' := by
  have h1 := h.row.cell k hat
  have h2 : w.frozen? ⟨g, k, none⟩ = false := by have := h.row; unfold Row at this; simp [World.frozen?, this]
  generalize zs.getD k 0 = z at *
  go_enter Tryz.func123, Tryz.ntmps123
  go_wp2_with (go_at_call 136; refine (piece_yes h k 1 (by omega) (by omega)).mono ?_; rintro e w' ⟨rfl, rfl⟩)
  go_ret
  exact ⟨rfl, h.set hat hv, But.setCell w' g k _⟩
theorem setByte_no {w : World} {p g : Nat} {zs : List Int} (h : Reg w p g zs) (k : Int) (hk : 0 ≤ k ∧ k ≤ 4294967295) (hat : zs.length ≤ k) (v : Int) :
    Calls Tryz.prog 123 #[.pointer (some ⟨p, 0, none⟩), .int .u32 k, .int .u8 v] w fun e w' => e = .returned (.int .i64 4) ∧ w' = w := by
  go_enter Tryz.func123, Tryz.ntmps123
  go_wp2_with (go_at_call 136; refine (piece_no h k 1 hk (by omega) (by omega)).mono ?_; rintro e w' ⟨rfl, rfl⟩)
  go_ret
  exact ⟨rfl, rfl⟩
theorem setByte_nil {w : World} (k v : Int) :
    Calls Tryz.prog 123 #[.pointer none, .int .u32 k, .int .u8 v] w fun e w' => e = .returned (.int .i64 2) ∧ w' = w := by
  go_enter Tryz.func123, Tryz.ntmps123
  go_wp2_with (go_at_call 136; refine (piece_nil k 1).mono ?_; rintro e w' ⟨rfl, rfl⟩)
  go_ret
  exact ⟨rfl, rfl⟩
theorem setByte_zero {w : World} {p : Nat} (h0 : w.cell? ⟨p, 0, none⟩ = some (.bool false)) (k v : Int) :
    Calls Tryz.prog 123 #[.pointer (some ⟨p, 0, none⟩), .int .u32 k, .int .u8 v] w fun e w' => e = .returned (.int .i64 2) ∧ w' = w := by
  go_enter Tryz.func123, Tryz.ntmps123
  go_wp2_with (go_at_call 136; refine (piece_zero h0 k 1).mono ?_; rintro e w' ⟨rfl, rfl⟩)
  go_ret
  exact ⟨rfl, rfl⟩

/-- a number out of its bytes, the highest first -/
def wv (l : List Int) : Int := l.foldl (fun n b => n * 256 + b) 0
theorem wv_snoc (l : List Int) (z : Int) : wv (l ++ [z]) = wv l * 256 + z := by simp [wv]
theorem wv_bd3 (a b c : Int) (ha : 0 ≤ a ∧ a ≤ 255) (hb : 0 ≤ b ∧ b ≤ 255) (hc : 0 ≤ c ∧ c ≤ 255) : 0 ≤ wv [a, b, c] ∧ wv [a, b, c] ≤ 16777215 := by
  simp only [wv, List.foldl]; omega
theorem or_byte (x y : Int) (hx : 0 ≤ x ∧ x ≤ 16777215) (hy : 0 ≤ y ∧ y ≤ 255) : bits .or .u32 (x * 256) y = x * 256 + y :=
  bits_join .u32 32 (by decide) (fun n h0 h1 => by rw [IntKind.wrap_u32]; omega) 8 _ _ (by omega) (by omega) (by omega) (by omega) (by omega) (by omega)
theorem four_of {zs : List Int} {k : Nat} (h : k + 4 ≤ zs.length) : (zs.drop k).take 4 = [zs.getD k 0, zs.getD (k + 1) 0, zs.getD (k + 2) 0, zs.getD (k + 3) 0] := by
  apply List.ext_getElem?
  intro i
  rcases i with _ | _ | _ | _ | i
  · simp [List.getElem?_eq_getElem (show k < zs.length by omega)]
  · simp [List.getElem?_eq_getElem (show k + 1 < zs.length by omega)]
  · simp [List.getElem?_eq_getElem (show k + 2 < zs.length by omega)]
  · simp [List.getElem?_eq_getElem (show k + 3 < zs.length by omega)]
  · simp; omega
theorem word_yes {w : World} {p g : Nat} {zs : List Int} (h : Reg w p g zs) (k : Nat) (hat : k + 4 ≤ zs.length) :
    Calls Tryz.prog 117 #[.pointer (some ⟨p, 0, none⟩), .int .u32 k] w fun e w' => e = .returned (.tuple #[.int .u32 (wv ((zs.drop k).take 4)), .int .i64 0]) ∧ w' = w := by
  have c0 := h.row.cell k (by omega)
  have c1 := h.row.cell (k + 1) (by omega)
  have c2 := h.row.cell (k + 2) (by omega)
  have c3 := h.row.cell (k + 3) (by omega)
  have b0 := isB_at h.wf k
  have b1 := isB_at h.wf (k + 1)
  have b2 := isB_at h.wf (k + 2)
  have b3 := isB_at h.wf (k + 3)
  have F : Hid ((zs.drop k).take 4 = [zs.getD k 0, zs.getD (k + 1) 0, zs.getD (k + 2) 0, zs.getD (k + 3) 0]) := four_of hat
  rw [F.out]
  generalize zs.getD k 0 = z0 at *
  generalize zs.getD (k + 1) 0 = z1 at *
  generalize zs.getD (k + 2) 0 = z2 at *
  generalize zs.getD (k + 3) 0 = z3 at *
  have o0 : bits .or .u32 0 z0 = z0 := by have := or_byte 0 z0 (by omega) b0; simpa using this
  have o1 := or_byte z0 z1 (by omega) b1
  have o2 := or_byte (z0 * 256 + z1) z2 (by omega) b2
  have o3 := or_byte ((z0 * 256 + z1) * 256 + z2) z3 (by omega) b3
  go_enter Tryz.func117, Tryz.ntmps117
  go_wp2_with (go_at_call 136; refine (piece_yes h k 4 (by omega) (by omega)).mono ?_; rintro e w' ⟨rfl, rfl⟩)
  go_loop [8, 22] (fun n i => (i = .int .i64 0 ∧ n = .int .u32 0) ∨ (i = .int .i64 1 ∧ n = .int .u32 z0) ∨ (i = .int .i64 2 ∧ n = .int .u32 (z0 * 256 + z1)) ∨ (i = .int .i64 3 ∧ n = .int .u32 ((z0 * 256 + z1) * 256 + z2)) ∨ (i = .int .i64 4 ∧ n = .int .u32 (((z0 * 256 + z1) * 256 + z2) * 256 + z3))) (fun _ i => 4 - (intOf i).toNat)
  case atStart => exact Or.inl ⟨rfl, rfl⟩
  case round =>
    rcases hrel with ⟨rfl, rfl⟩ | ⟨rfl, rfl⟩ | ⟨rfl, rfl⟩ | ⟨rfl, rfl⟩ | ⟨rfl, rfl⟩
    · go_wp2
      go_round
      case rel => exact Or.inr (Or.inl ⟨rfl, rfl⟩)
      case measure => simp [intOf]
    · go_wp2
      go_round
      case rel => exact Or.inr (Or.inr (Or.inl ⟨rfl, rfl⟩))
      case measure => simp [intOf]
    · go_wp2
      go_round
      case rel => exact Or.inr (Or.inr (Or.inr (Or.inl ⟨rfl, rfl⟩)))
      case measure => simp [intOf]
    · go_wp2
      go_round
      case rel => exact Or.inr (Or.inr (Or.inr (Or.inr ⟨rfl, rfl⟩)))
      case measure => simp [intOf]
    · go_wp2
      go_ret2
      exact ⟨ret_n2 (by simp [wv]) _, rfl⟩
theorem word_no {w : World} {p g : Nat} {zs : List Int} (h : Reg w p g zs) (k : Int) (hk : 0 ≤ k ∧ k ≤ 4294967295) (hat : zs.length < k + 4) :
    Calls Tryz.prog 117 #[.pointer (some ⟨p, 0, none⟩), .int .u32 k] w fun e w' => e = .returned (.tuple #[.int .u32 0, .int .i64 4]) ∧ w' = w := by
  go_enter Tryz.func117, Tryz.ntmps117
  go_wp2_with (go_at_call 136; refine (piece_no h k 4 hk (by omega) (by omega)).mono ?_; rintro e w' ⟨rfl, rfl⟩)
  go_ret2
  exact ⟨rfl, rfl⟩
theorem word_nil {w : World} (k : Int) :
    Calls Tryz.prog 117 #[.pointer none, .int .u32 k] w fun e w' => e = .returned (.tuple #[.int .u32 0, .int .i64 2]) ∧ w' = w := by
  go_enter Tryz.func117, Tryz.ntmps117
  go_wp2_with (go_at_call 136; refine (piece_nil k 4).mono ?_; rintro e w' ⟨rfl, rfl⟩)
  go_ret2
  exact ⟨rfl, rfl⟩
theorem word_zero {w : World} {p : Nat} (h0 : w.cell? ⟨p, 0, none⟩ = some (.bool false)) (k : Int) :
    Calls Tryz.prog 117 #[.pointer (some ⟨p, 0, none⟩), .int .u32 k] w fun e w' => e = .returned (.tuple #[.int .u32 0, .int .i64 2]) ∧ w' = w := by
  go_enter Tryz.func117, Tryz.ntmps117
  go_wp2_with (go_at_call 136; refine (piece_zero h0 k 4).mono ?_; rintro e w' ⟨rfl, rfl⟩)
  go_ret2
  exact ⟨rfl, rfl⟩
/-- a number's four bytes -/
def bs4 (v : Int) : List Int := [v / 16777216, v / 65536 % 256, v / 256 % 256, v % 256]
theorem bs4_isB (v : Int) (hv : 0 ≤ v ∧ v ≤ 4294967295) : isB (bs4 v) := by
  intro z hz
  simp only [bs4, List.mem_cons, List.not_mem_nil, or_false] at hz
  rcases hz with rfl | rfl | rfl | rfl <;> omega
theorem Reg.splice {w w' : World} {p g k : Nat} {zs ys : List Int} (h : Reg w p g zs) (hb : But g w w') (hr : Row w' g (splice zs k ys)) (hk : k + ys.length ≤ zs.length) (hy : isB ys) : Reg w' p g (Go.splice zs k ys) :=
  ⟨by rw [hb.block p (at_lt h.head) h.ne, length_splice _ _ _ hk]; exact h.head, hr, by rw [length_splice _ _ _ hk]; exact h.len, isB_splice h.wf hy k, h.ne⟩
theorem setWord_yes {w : World} {p g : Nat} {zs : List Int} (h : Reg w p g zs) (k : Nat) (hat : k + 4 ≤ zs.length) (v : Int) (hv : 0 ≤ v ∧ v ≤ 4294967295) :
    Calls Tryz.prog 120 #[.pointer (some ⟨p, 0, none⟩), .int .u32 k, .int .u32 v] w fun e w' => e = .returned (.int .i64 0) ∧ Reg w' p g (Go.splice zs k (bs4 v)) ∧ But g w w' := by
  have hB := alloc_below w (.cells #[.int .u8 (v / 16777216), .int .u8 (v / 65536 % 256), .int .u8 (v / 256 % 256), .int .u8 (v % 256)] 198)
  have hA := alloc_at w (.cells #[.int .u8 (v / 16777216), .int .u8 (v / 65536 % 256), .int .u8 (v / 256 % 256), .int .u8 (v % 256)] 198)
  have hs : Src (w.heap.size + 1) (w.alloc (.cells #[.int .u8 (v / 16777216), .int .u8 (v / 65536 % 256), .int .u8 (v / 256 % 256), .int .u8 (v % 256)] 198)) (some ⟨w.heap.size, 0, none⟩) (bs4 v) :=
    ⟨fun _ => ⟨w.heap.size, 0, rfl, by omega, fun i hi => by
      rw [cell_of hA]
      have : i < 4 := hi
      rcases i with _ | _ | _ | _ | i
      · rfl
      · rfl
      · rfl
      · rfl
      · omega⟩, bs4_isB v hv⟩
  obtain ⟨w', hr, hR, hb, hz⟩ := copy_row _ g k 4 4 (some ⟨w.heap.size, 0, none⟩) 4 4 zs (bs4 v) _ (h.below hB).row hs rfl (Nat.le_refl 4) hat
  have hR' := (h.below hB).splice hb hR hat (bs4_isB v hv)
  have hb' := (But.of (g := g) hB).trans hb
  clear hA hs hz hR hb hB
  go_enter Tryz.func120, Tryz.ntmps120
  go_wp2_with (first
    | (go_at_call 136; refine (piece_yes h k 4 (by omega) (by omega)).mono ?_; rintro e w' ⟨rfl, rfl⟩))
  go_ret
  exact ⟨rfl, hR', hb'⟩
theorem bytes_any {w : World} {p g : Nat} {zs : List Int} (h : Reg w p g zs) :
    Calls Tryz.prog 41 #[.pointer (some ⟨p, 0, none⟩)] w fun e w' => e = .returned (.slice (some ⟨w.heap.size, 0, none⟩) zs.length zs.length) ∧ Row w' w.heap.size zs ∧ Below w.heap.size w w' := by
  have h1 : w.cell? ⟨p, 1, none⟩ = some (.slice (some ⟨g, 0, none⟩) zs.length zs.length) := by rw [cell_of h.head]; rfl
  have hl := h.len
  have hmk := make_row w zs.length zs.length (Nat.le_refl _) (by omega)
  have hB := alloc_below w (.cells (byt (List.replicate zs.length 0)).toArray 5)
  have hA : Row (w.alloc (.cells (byt (List.replicate zs.length 0)).toArray 5)) w.heap.size (List.replicate zs.length 0) := alloc_at w _
  have h2 : (w.alloc (.cells (byt (List.replicate zs.length 0)).toArray 5)).cell? ⟨p, 1, none⟩ = some (.slice (some ⟨g, 0, none⟩) zs.length zs.length) := by rw [hB.cell (p := ⟨p, 1, none⟩) (at_lt h.head)]; exact h1
  have hs : Src _ (w.alloc (.cells (byt (List.replicate zs.length 0)).toArray 5)) (some ⟨g, 0, none⟩) zs := Src.row (n := 0) (h.below hB).row h.wf
  obtain ⟨w', hr, hR, hb, hz⟩ := copy_row _ w.heap.size 0 zs.length zs.length (some ⟨g, 0, none⟩) zs.length zs.length (List.replicate zs.length 0) zs _ hA hs rfl (Nat.le_refl _) (by simp)
  rw [splice_all _ _ (by simp)] at hR
  simp only [List.drop_replicate, Nat.sub_self, List.replicate_zero, List.append_nil] at hR
  have hb' : Below w.heap.size w w' := hB.trans (hb.below (Nat.le_refl _) hB.size)
  clear hB hA hs hb hz h
  generalize w.alloc (.cells (byt (List.replicate zs.length 0)).toArray 5) = w1 at *
  generalize zs.length = n at *
  go_enter Tryz.func41, Tryz.ntmps41
  go_wp2
  go_ret
  exact ⟨rfl, hR, hb'⟩
theorem bytes_nil {w : World} : Calls Tryz.prog 41 #[.pointer none] w fun e w' => e = .returned (.slice none 0 0) ∧ w' = w := by
  go_enter Tryz.func41, Tryz.ntmps41
  go_wp2
  go_ret
  exact ⟨rfl, rfl⟩
theorem bytes_zero {w : World} {p : Nat} (h1 : w.cell? ⟨p, 1, none⟩ = some (.slice none 0 0)) (hp : p < w.heap.size) :
    Calls Tryz.prog 41 #[.pointer (some ⟨p, 0, none⟩)] w fun e w' => e = .returned (.slice (some ⟨w.heap.size, 0, none⟩) 0 0) ∧ Below w.heap.size w w' := by
  have hmk : (Instr.makeSlice 22 (.int .i64 0) (.int .i64 0)).run Tryz.prog w = .ok (.slice (some ⟨w.heap.size, 0, none⟩) 0 0) (w.alloc (.cells (byt (List.replicate 0 0)).toArray 5)) := make_row w 0 0 (Nat.le_refl _) (by omega)
  have hB := alloc_below w (.cells (byt (List.replicate 0 0)).toArray 5)
  have hA : Row (w.alloc (.cells (byt (List.replicate 0 0)).toArray 5)) w.heap.size (List.replicate 0 0) := alloc_at w _
  have h2 : (w.alloc (.cells (byt (List.replicate 0 0)).toArray 5)).cell? ⟨p, 1, none⟩ = some (.slice none 0 0) := by rw [hB.cell (p := ⟨p, 1, none⟩) hp]; exact h1
  obtain ⟨w', hr, hR, hb, hz⟩ := copy_row _ w.heap.size 0 0 0 none 0 0 (List.replicate 0 0) [] 0 hA (Src.nil' 0) rfl (Nat.le_refl _) (by simp)
  have hb' : Below w.heap.size w w' := hB.trans (hb.below (Nat.le_refl _) hB.size)
  clear hB hA hb hz
  generalize w.alloc (.cells (byt (List.replicate 0 0)).toArray 5) = w1 at *
  go_enter Tryz.func41, Tryz.ntmps41
  go_wp2
  go_ret
  exact ⟨rfl, hb'⟩
theorem zeros_app (zs : List Int) (n : Nat) (h : zs.length ≤ n) : splice (List.replicate n 0) 0 zs = zs ++ List.replicate (n - zs.length) 0 := by
  rw [splice_all _ _ (by simpa using h), List.drop_replicate]
theorem new_yes {w : World} {B : Nat} {sp : Option Addr} {zs : List Int} (hs : Src B w sp zs) (hBw : B ≤ w.heap.size) (c n : Nat) (hn : n ≤ 4096) (hz : zs.length ≤ n) :
    Calls Tryz.prog 33 #[.int .i64 n, .slice sp zs.length c] w fun e w' => ∃ p g, e = .returned (.tuple #[.pointer (some ⟨p, 0, none⟩), .int .i64 0]) ∧ Reg w' p g (zs ++ List.replicate (n - zs.length) 0) ∧ Below w.heap.size w w' ∧ w.heap.size ≤ g ∧ g < p := by
  have hmk := make_row w n n (Nat.le_refl _) (by omega)
  have hB := alloc_below w (.cells (byt (List.replicate n 0)).toArray 5)
  have hA : Row (w.alloc (.cells (byt (List.replicate n 0)).toArray 5)) w.heap.size (List.replicate n 0) := alloc_at w _
  obtain ⟨w', hr, hR, hb, hz'⟩ := copy_row _ w.heap.size 0 n n sp zs.length c (List.replicate n 0) zs B hA (hs.below (hB.mono hBw)) rfl hz (by simpa using hz)
  rw [zeros_app _ _ hz] at hR
  have hb' : Below w.heap.size w w' := hB.trans (hb.below (Nat.le_refl _) hB.size)
  have hL : (zs ++ List.replicate (n - zs.length) 0).length = n := by simp; omega
  have hP := alloc_at w' (.cells #[.bool true, .slice (some ⟨w.heap.size, 0, none⟩) n n] 100)
  have hb2 := alloc_below w' (.cells #[.bool true, .slice (some ⟨w.heap.size, 0, none⟩) n n] 100)
  have hf : Reg (w'.alloc (.cells #[.bool true, .slice (some ⟨w.heap.size, 0, none⟩) n n] 100)) w'.heap.size w.heap.size (zs ++ List.replicate (n - zs.length) 0) :=
    ⟨by rw [hL]; exact hP, (hb2.block _ hR.lt).trans hR, by omega, isB_app hs.wf (isB_zero _), by have := hR.lt; omega⟩
  have hfb : Below w.heap.size w (w'.alloc (.cells #[.bool true, .slice (some ⟨w.heap.size, 0, none⟩) n n] 100)) := hb'.trans (hb2.mono hb'.size)
  have hlt : w.heap.size < w'.heap.size := hR.lt
  have hne : w'.heap.size ≠ w.heap.size := by omega
  clear hB hA hb hz' hL hP hb2 hb' hR hs
  generalize w.alloc (.cells (byt (List.replicate n 0)).toArray 5) = w1 at *
  generalize zs ++ List.replicate (n - zs.length) 0 = all at *
  generalize zs.length = m at *
  go_enter Tryz.func33, Tryz.ntmps33
  go_wp2
  go_ret2
  exact ⟨_, _, rfl, hf, hfb, Nat.le_refl _, hlt⟩
theorem new_no {w : World} {sp : Option Addr} (m c : Nat) (n : Int) (hm : m ≤ 4611686018427387904) (h : n < 0 ∨ 4096 < n ∨ n < m) :
    Calls Tryz.prog 33 #[.int .i64 n, .slice sp m c] w fun e w' => e = .returned (.tuple #[.pointer none, .int .i64 1]) ∧ w' = w := by
  by_cases h0 : n < 0
  · go_enter Tryz.func33, Tryz.ntmps33
    go_wp2
    go_ret2
    exact ⟨rfl, rfl⟩
  · by_cases h1 : 4096 < n
    · go_enter Tryz.func33, Tryz.ntmps33
      go_wp2
      go_ret2
      exact ⟨rfl, rfl⟩
    · have h2 : n < m := by omega
      go_enter Tryz.func33, Tryz.ntmps33
      go_wp2
      go_ret2
      exact ⟨rfl, rfl⟩
theorem setWord_no {w : World} {p g : Nat} {zs : List Int} (h : Reg w p g zs) (k : Int) (hk : 0 ≤ k ∧ k ≤ 4294967295) (hat : zs.length < k + 4) (v : Int) :
    Calls Tryz.prog 120 #[.pointer (some ⟨p, 0, none⟩), .int .u32 k, .int .u32 v] w fun e w' => e = .returned (.int .i64 4) ∧ w' = w := by
  go_enter Tryz.func120, Tryz.ntmps120
  go_wp2_with (go_at_call 136; refine (piece_no h k 4 hk (by omega) (by omega)).mono ?_; rintro e w' ⟨rfl, rfl⟩)
  go_ret
  exact ⟨rfl, rfl⟩
theorem setWord_nil {w : World} (k v : Int) :
    Calls Tryz.prog 120 #[.pointer none, .int .u32 k, .int .u32 v] w fun e w' => e = .returned (.int .i64 2) ∧ w' = w := by
  go_enter Tryz.func120, Tryz.ntmps120
  go_wp2_with (go_at_call 136; refine (piece_nil k 4).mono ?_; rintro e w' ⟨rfl, rfl⟩)
  go_ret
  exact ⟨rfl, rfl⟩
theorem setWord_zero {w : World} {p : Nat} (h0 : w.cell? ⟨p, 0, none⟩ = some (.bool false)) (k v : Int) :
    Calls Tryz.prog 120 #[.pointer (some ⟨p, 0, none⟩), .int .u32 k, .int .u32 v] w fun e w' => e = .returned (.int .i64 2) ∧ w' = w := by
  go_enter Tryz.func120, Tryz.ntmps120
  go_wp2_with (go_at_call 136; refine (piece_zero h0 k 4).mono ?_; rintro e w' ⟨rfl, rfl⟩)
  go_ret
  exact ⟨rfl, rfl⟩
end Go.Proofs.YtomccgodfimaiaaGreatDoor.Rn
