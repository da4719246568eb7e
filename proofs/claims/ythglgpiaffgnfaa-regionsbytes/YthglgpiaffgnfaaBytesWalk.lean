/- 'RegionsBytes' walked: a byte that is set is told, and no other one is changed; four of them make the number. -/
import Derived.Test.YthglgpiaffgnfaaOwn
import Derived.Deep.RegionWith
namespace Go.Proofs.Ythglgpiaffgnfaa
open Go Go.RowKit
set_option maxRecDepth 100000
set_option linter.unusedVariables false
/-- the bytes behind so many that were set -/
def st (zs : List Int) (a : Int) (vs : List Int) : Nat → List Int
  | 0 => zs
  | i + 1 => (st zs a vs i).set (a + i).toNat (vs.getD i 0)
theorem st_len (zs : List Int) (a : Int) (vs : List Int) : ∀ i, (st zs a vs i).length = zs.length
  | 0 => rfl
  | i + 1 => by rw [st, List.length_set]; exact st_len zs a vs i
theorem setByteI {w : World} {p g n : Nat} {zs : List Int} (h : Reg w p g zs) (hn : zs.length = n) (k : Int) (h0 : 0 ≤ k) (hk : k < n) (v : Int) (hv : 0 ≤ v ∧ v ≤ 255) :
    Calls Try.prog 11 #[.pointer (some ⟨p, 0, none⟩), .int .u32 k, .int .u8 v] w fun e w' => e = .returned (.int .i64 0) ∧ Reg w' p g (zs.set k.toNat v) ∧ But g w w' := by
  obtain ⟨m, rfl⟩ := Int.eq_ofNat_of_zero_le h0
  exact setByte_yes h m (by omega) v hv
theorem byteI {w : World} {p g n : Nat} {zs : List Int} (h : Reg w p g zs) (hn : zs.length = n) (k : Int) (h0 : 0 ≤ k) (hk : k < n) {v : Int} (hv : zs.getD k.toNat 0 = v) :
    Calls Try.prog 9 #[.pointer (some ⟨p, 0, none⟩), .int .u32 k] w fun e w' => e = .returned (.tuple #[.int .u8 v, .int .i64 0]) ∧ w' = w := by
  obtain ⟨m, rfl⟩ := Int.eq_ofNat_of_zero_le h0
  subst hv
  exact byte_yes h m (by omega)
theorem wordI {w : World} {p g n : Nat} {zs : List Int} (h : Reg w p g zs) (hn : zs.length = n) (k : Int) (h0 : 0 ≤ k) (hk : k + 4 ≤ n) {v : Int} (hv : wv ((zs.drop k.toNat).take 4) = v) :
    Calls Try.prog 8 #[.pointer (some ⟨p, 0, none⟩), .int .u32 k] w fun e w' => e = .returned (.tuple #[.int .u32 v, .int .i64 0]) ∧ w' = w := by
  obtain ⟨m, rfl⟩ := Int.eq_ofNat_of_zero_le h0
  subst hv
  exact word_yes h m (by omega)
theorem st4 (zs : List Int) (a : Int) (h0 : 0 ≤ a) (x y z t : Int) (h : a + 4 ≤ zs.length) : wv (((st zs a [x, y, z, t] 4).drop a.toNat).take 4) = ((x * 256 + y) * 256 + z) * 256 + t := by
  obtain ⟨k, rfl⟩ := Int.eq_ofNat_of_zero_le h0
  have e : st zs k [x, y, z, t] 4 = (((zs.set k x).set (k + 1) y).set (k + 2) z).set (k + 3) t := by
    show (((zs.set ((k : Int) + (0 : Nat)).toNat x).set ((k : Int) + (1 : Nat)).toNat y).set ((k : Int) + (2 : Nat)).toNat z).set ((k : Int) + (3 : Nat)).toNat t = _
    rw [show ((k : Int) + (0 : Nat)).toNat = k by omega, show ((k : Int) + (1 : Nat)).toNat = k + 1 by omega, show ((k : Int) + (2 : Nat)).toNat = k + 2 by omega, show ((k : Int) + (3 : Nat)).toNat = k + 3 by omega]
  rw [e, set4 _ _ _ _ _ _ (by omega), Int.toNat_natCast]
  have := splice_mid zs [x, y, z, t] k (by show k + 4 ≤ _; omega)
  rw [show ([x, y, z, t] : List Int).length = 4 from rfl] at this
  rw [this]
  simp [wv]
theorem or16 (x y : Int) (hx : 0 ≤ x ∧ x ≤ 255) (hy : 0 ≤ y ∧ y ≤ 255) : bits .or .u32 (x * 16777216) (y * 65536) = x * 16777216 + y * 65536 :=
  bits_join .u32 32 (by decide) (fun n h0 h1 => by rw [IntKind.wrap_u32]; omega) 24 _ _ (by omega) (by omega) (by omega) (by omega) (by omega) (by omega)
theorem or8 (x y z : Int) (hx : 0 ≤ x ∧ x ≤ 255) (hy : 0 ≤ y ∧ y ≤ 255) (hz : 0 ≤ z ∧ z ≤ 255) : bits .or .u32 (x * 16777216 + y * 65536) (z * 256) = x * 16777216 + y * 65536 + z * 256 :=
  bits_join .u32 32 (by decide) (fun n h0 h1 => by rw [IntKind.wrap_u32]; omega) 16 _ _ (by omega) (by omega) (by omega) (by omega) (by omega) (by omega)
theorem or0 (x y z t : Int) (hx : 0 ≤ x ∧ x ≤ 255) (hy : 0 ≤ y ∧ y ≤ 255) (hz : 0 ≤ z ∧ z ≤ 255) (ht : 0 ≤ t ∧ t ≤ 255) : bits .or .u32 (x * 16777216 + y * 65536 + z * 256) t = ((x * 256 + y) * 256 + z) * 256 + t := by
  rw [bits_join .u32 32 (by decide) (fun n h0 h1 => by rw [IntKind.wrap_u32]; omega) 8 _ _ (by omega) (by omega) (by omega) (by omega) (by omega) (by omega)]
  omega
theorem box_cell {w wx : World} {V : Nat} {x y z t : Int} (h : wx.heap[V]? = some (.cells #[.int .u8 x, .int .u8 y, .int .u8 z, .int .u8 t] 43 (0, 0))) (i : Nat) (hi : i < 4) : wx.cell? ⟨V, i, none⟩ = some (.int .u8 (([x, y, z, t] : List Int).getD i 0)) := by
  rw [cell_of h]
  rcases i with _ | _ | _ | _ | i
  · rfl
  · rfl
  · rfl
  · rfl
  · omega
theorem isB4 {x y z t : Int} (hx : 0 ≤ x ∧ x ≤ 255) (hy : 0 ≤ y ∧ y ≤ 255) (hz : 0 ≤ z ∧ z ≤ 255) (ht : 0 ≤ t ∧ t ≤ 255) : isB [x, y, z, t] := by
  intro b hb
  simp only [List.mem_cons, List.not_mem_nil, or_false] at hb
  rcases hb with rfl | rfl | rfl | rfl <;> assumption
set_option maxHeartbeats 2000000 in
theorem bytes_law {w : World} {sp : Option Addr} {zs : List Int} (hs : Src w.heap.size w sp zs) (hm : zs.length ≤ maxLen) (c : Nat) (a : Int) (ha : 0 ≤ a ∧ a ≤ 4294967295) (x y z t : Int) (hx : 0 ≤ x ∧ x ≤ 255) (hy : 0 ≤ y ∧ y ≤ 255) (hz : 0 ≤ z ∧ z ≤ 255) (ht : 0 ≤ t ∧ t ≤ 255) :
    Calls Try.prog 5 #[.slice sp zs.length c, .int .u32 a, .agg #[.int .u8 x, .int .u8 y, .int .u8 z, .int .u8 t]] w fun e w' => e = .returned (.bool true) ∧ Below w.heap.size w w' := by
  have hV := alloc_at w (.cells #[.int .u8 x, .int .u8 y, .int .u8 z, .int .u8 t] 43)
  have hB := alloc_below w (.cells #[.int .u8 x, .int .u8 y, .int .u8 z, .int .u8 t] 43)
  have hlV := alloc_size w (.cells #[.int .u8 x, .int .u8 y, .int .u8 z, .int .u8 t] 43)
  replace hs := hs.below hB
  unfold maxLen at hm
  obtain ⟨n, hn⟩ : ∃ n, zs.length = n := ⟨_, rfl⟩
  rw [hn] at hm ⊢
  have HN : Hid (zs.length = n) := hn
  clear hn
  have hC : Below (w.heap.size + 1) (w.alloc (.cells #[.int .u8 x, .int .u8 y, .int .u8 z, .int .u8 t] 43)) (w.alloc (.cells #[.int .u8 x, .int .u8 y, .int .u8 z, .int .u8 t] 43)) := Below.refl _ _
  have HV : Hid ((w.alloc (.cells #[.int .u8 x, .int .u8 y, .int .u8 z, .int .u8 t] 43)).heap[w.heap.size]? = some (.cells #[.int .u8 x, .int .u8 y, .int .u8 z, .int .u8 t] 43 (0, 0))) := hV
  clear hV
  by_cases h4 : n ≤ 4096
  · go_enter Try.func5, Try.ntmps5
    go_wp2_with (first
      | (go_at_call 13; refine (alive_any _).mono ?_; rintro e w1 ⟨rfl, hb⟩; replace hs := hs.below (hb.mono hB.size); replace hC := hC.trans (hb.mono (by have := hC.size; omega)); replace hB := hB.trans (hb.mono hB.size); clear hb)
      | (go_at_call 14; refine (new_all hs hB.size HN.out h4 c).mono ?_; rintro e w2 ⟨p, g, rfl, hR, hb2, hg, hp⟩; replace hg : w.heap.size + 1 ≤ g := (by have := hC.size; omega); replace hC := hC.trans (hb2.mono (by have := hC.size; omega)); replace hB := hB.trans (hb2.mono hB.size); clear hb2 hs))
    go_loopg [9] 4 (fun gk s9 wx => ∃ i : Nat, i + gk = 4 ∧ s9 = .int .u32 i ∧ Below (w.heap.size + 1) (w.alloc (.cells #[.int .u8 x, .int .u8 y, .int .u8 z, .int .u8 t] 43)) wx ∧ Below w.heap.size w wx ∧ Hid (Reg wx p g (st zs a [x, y, z, t] i)))
    case atStart => exact ⟨0, by omega, rfl, hC, hB, hR⟩
    case round =>
      clear hC hB hR
      obtain ⟨i, hig, rfl, hC, hB, HR⟩ := hrel
      cases gk with
      | zero =>
        obtain rfl : i = 4 := by omega
        by_cases may : a + 4 ≤ n
        · have hb4 := (hC.block w.heap.size (by omega)).trans HV.out
          have c0 := box_cell (w := w) hb4 0 (by omega)
          have c1 := box_cell (w := w) hb4 1 (by omega)
          have c2 := box_cell (w := w) hb4 2 (by omega)
          have c3 := box_cell (w := w) hb4 3 (by omega)
          simp only [List.getD_cons_zero, List.getD_cons_succ] at c0 c1 c2 c3
          clear hb4
          have HW : Hid (wv (((st zs a [x, y, z, t] 4).drop a.toNat).take 4) = ((x * 256 + y) * 256 + z) * 256 + t) := st4 zs a ha.1 x y z t (by rw [HN.out]; exact may)
          have HL : Hid ((st zs a [x, y, z, t] 4).length = n) := (st_len _ _ _ 4).trans HN.out
          have o1 := or16 x y hx hy
          have o2 := or8 x y z hx hy hz
          have o3 := or0 x y z t hx hy hz ht
          go_wp2_with (first
            | (go_at_call 8; refine (wordI HR.out HL.out _ ha.1 may HW.out).mono ?_; rintro e wx ⟨rfl, rfl⟩))
          go_ret
          exact ⟨rfl, hB⟩
        · have HL : Hid ((st zs a [x, y, z, t] 4).length = n) := (st_len _ _ _ 4).trans HN.out
          go_wp2_with (first
            | (go_at_call 8; refine (word_no HR.out _ ha (by rw [HL.out]; omega)).mono ?_; rintro e wx ⟨rfl, rfl⟩))
          go_ret
          exact ⟨rfl, hB⟩
      | succ g' =>
        have hi : i < 4 := by omega
        have hc := box_cell (w := w) ((hC.block w.heap.size (by omega)).trans HV.out) i hi
        have hvb := isB_at (isB4 hx hy hz ht) i
        have HL : Hid ((st zs a [x, y, z, t] i).length = n) := (st_len _ _ _ i).trans HN.out
        have HS : Hid (st zs a [x, y, z, t] (i + 1) = (st zs a [x, y, z, t] i).set (a + i).toNat (([x, y, z, t] : List Int).getD i 0)) := rfl
        generalize ([x, y, z, t] : List Int).getD i 0 = vi at *
        by_cases may : a + i < n
        · have HG : Hid (((st zs a [x, y, z, t] i).set (a + i).toNat vi).getD (a + i).toNat 0 = vi) := by
            show _ = _
            have : (a + i).toNat < (st zs a [x, y, z, t] i).length := by rw [HL.out]; omega
            simp [this]
          go_wp2_with (first
            | (go_at_call 11; refine (setByteI HR.out HL.out _ (by omega) may vi hvb).mono ?_; rintro e w3 ⟨rfl, hR3, hb3⟩; have hd3 := hb3.below hg (by have := hC.size; omega); replace hC := hC.trans hd3; replace hB := hB.trans (hb3.below (by omega) hB.size); replace hc := (hd3.cell (p := ⟨w.heap.size, i, none⟩) (show w.heap.size < w.heap.size + 1 by omega)).trans hc; clear hb3 hd3)
            | (go_at_call 9; refine (byteI hR3 (by rw [List.length_set]; exact HL.out) _ (by omega) may HG.out).mono ?_; rintro e wx ⟨rfl, rfl⟩))
          go_roundg g'
          case measure => omega
          case rel => exact ⟨i + 1, by omega, by go_num, hC, hB, by show Reg _ _ _ _; rw [HS.out]; exact hR3⟩
        · have HE : Hid ((st zs a [x, y, z, t] i).set (a + i).toNat vi = st zs a [x, y, z, t] i) := List.set_eq_of_length_le (by rw [HL.out]; omega)
          have dm : decide (a + i < (n : Int)) = false := by simpa using may
          by_cases big : 4294967296 ≤ a + i
          · go_wp2_with (first
              | (go_at_call 8; refine (word_no HR.out _ ha (by rw [HL.out]; omega)).mono ?_; rintro e wx ⟨rfl, rfl⟩))
            go_ret
            exact ⟨rfl, hB⟩
          · go_wp2_with (first
              | (go_at_call 11; refine (setByte_no HR.out _ (by omega) (by rw [HL.out]; omega) vi).mono ?_; rintro e wx ⟨rfl, rfl⟩)
              | (go_at_call 9; refine (byte_no HR.out _ (by omega) (by rw [HL.out]; omega)).mono ?_; rintro e wx ⟨rfl, rfl⟩))
            go_roundg g'
            case measure => omega
            case rel => exact ⟨i + 1, by omega, by go_num, hC, hB, by show Reg _ _ _ _; rw [HS.out, HE.out]; exact HR.out⟩
  · go_enter Try.func5, Try.ntmps5
    go_wp2_with (first
      | (go_at_call 13; refine (alive_any _).mono ?_; rintro e w1 ⟨rfl, hb⟩; replace hB := hB.trans (hb.mono hB.size); clear hb))
    go_ret
    exact ⟨rfl, hB⟩
end Go.Proofs.Ythglgpiaffgnfaa
