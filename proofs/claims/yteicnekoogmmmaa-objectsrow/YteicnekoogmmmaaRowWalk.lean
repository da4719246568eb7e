/- 'ObjectsRow' walked: what is put to a queue, as far as there is room, is got in that order, all of it. -/
import Derived.Test.YteicnekoogmmmaaOArgs
namespace Go.Proofs.Yteicnekoogmmmaa
open Go Go.RowKit
open Go.ChangeShapes Go.WideShapes Go.WideElems
set_option maxRecDepth 100000
set_option linter.unusedVariables false
/-- a slice of words that came in, no longer than its capacity -/
theorem open_row {H : Type} {enc : TypeId × Value → H} {W : World} {base : Nat} {v : Value} {d : DataW H} {p : List MemPlace}
    (hval : Value.okWide Try.prog W .any base 37 v) (h : DataW.Trod enc Try.prog W 0 (fun _ => true) true 37 v d p) :
    ∃ sp zs cap, v = .slice sp zs.length cap ∧ (WSrc W.heap.size W sp zs ∧ zs.length ≤ cap) ∧ zs.length ≤ maxLen := by
  obtain ⟨a0, len, cap, rfl⟩ := okWide_slice Try.underlying37 hval
  obtain ⟨fuel, hf⟩ := h
  rcases open_ints Try.underlying37 Try.underlying22 (by kernel_rfl) hf with ⟨hcs, hx⟩ | ⟨a, len', cap', zs, hcs, _, hl, hm, hz, hx, hcell, hwz⟩
  · simp [Value.cells] at hcs
    obtain ⟨rfl, rfl, rfl⟩ := hcs
    exact ⟨none, [], 0, rfl, ⟨WSrc.nil' _, by simp⟩, by simp⟩
  · simp [Value.cells] at hcs
    obtain ⟨rfl, rfl, rfl⟩ := hcs
    simp at hz
    have hll : (zs.take len).length = len := by simp; omega
    refine ⟨some a, zs.take len, cap, by rw [hll], ⟨⟨fun hp => ?_, fun z hz' => bounds_u32 (hwz z (List.mem_of_mem_take hz'))⟩, by omega⟩, by rw [hll]; omega⟩
    rw [hll] at hp
    obtain ⟨b, off, rfl, hc⟩ := ints_at hcell (by omega)
    refine ⟨b, off, rfl, cell_lt (hc 0 (by omega)), fun i hi => ?_⟩
    rw [hll] at hi
    rw [hc i (by omega)]
    simp [hi]
theorem rw_put {w : World} {p f g m : Nat} {xs ys : List Int} (h : Rq w p f g m xs) (hn : xs.length < m) (v : Int) (hy : xs ++ [v] = ys) : Calls Try.prog 8 #[.pointer (some ⟨p, 0, none⟩), .int .u32 1, .agg #[.int .u8 7, .int .u32 0, .int .u32 v, .int .u32 0, .int .i64 0]] w fun e w' => e = .returned (.tuple #[.int .u32 0, .int .i64 0]) ∧ Rq w' p f g m ys ∧ Buts [g] w w' := by
  have := rq_put h 1 0 v 0 0 (by decide)
  rwa [addE_ok (by omega), putL_ok (by omega), hy] at this
theorem rw_full {w : World} {p f g m : Nat} {xs : List Int} (h : Rq w p f g m xs) (hn : xs.length = m) (v : Int) : Calls Try.prog 8 #[.pointer (some ⟨p, 0, none⟩), .int .u32 1, .agg #[.int .u8 7, .int .u32 0, .int .u32 v, .int .u32 0, .int .i64 0]] w fun e w' => e = .returned (.tuple #[.int .u32 0, .int .i64 7]) ∧ Rq w' p f g m xs ∧ Buts [g] w w' := by
  have := rq_put h 1 0 v 0 0 (by decide)
  rwa [addE_full hn, putL_full hn] at this
theorem rw_peek {w : World} {p f g m : Nat} {x : Int} {xs : List Int} (h : Rq w p f g m (x :: xs)) : Calls Try.prog 8 #[.pointer (some ⟨p, 0, none⟩), .int .u32 2, .agg #[.int .u8 10, .int .u32 0, .int .u32 0, .int .u32 0, .int .i64 0]] w fun e w' => e = .returned (.tuple #[.int .u32 x, .int .i64 0]) ∧ Below w.heap.size w w' := by
  have := rq_peek h 2 0 0 0 0 (by decide)
  rwa [takeE_cons] at this
theorem rw_get {w : World} {p f g m : Nat} {x : Int} {xs : List Int} (h : Rq w p f g m (x :: xs)) : Calls Try.prog 8 #[.pointer (some ⟨p, 0, none⟩), .int .u32 2, .agg #[.int .u8 9, .int .u32 0, .int .u32 0, .int .u32 0, .int .i64 0]] w fun e w' => e = .returned (.tuple #[.int .u32 x, .int .i64 0]) ∧ Rq w' p f g m xs ∧ Buts [g] w w' := by
  have := rq_get h 2 0 0 0 0 (by decide)
  rwa [takeE_cons] at this
theorem rw_none {w : World} {p f g m : Nat} (h : Rq w p f g m []) : Calls Try.prog 8 #[.pointer (some ⟨p, 0, none⟩), .int .u32 1, .agg #[.int .u8 9, .int .u32 0, .int .u32 0, .int .u32 0, .int .i64 0]] w fun e w' => e = .returned (.tuple #[.int .u32 0, .int .i64 7]) ∧ Rq w' p f g m [] ∧ Buts [g] w w' := rq_get h 1 0 0 0 0 (by decide)
theorem Lst.src {w : World} {B n c : Nat} {s : Option Addr} {xs : List Int} (h : Lst w B (.slice s n c) xs) : n = xs.length ∧ Src w s xs := by
  obtain ⟨h1, h2⟩ := h
  rcases h2 with ⟨e1, e2⟩ | ⟨g, cap, cur, e1, hg, hh, hc, hm, hl, ht⟩
  · simp only [Value.slice.injEq] at e1
    have : xs = [] := by cases xs <;> simp_all [wrd]
    subst this
    exact ⟨e1.2.1, fun h => absurd h (by simp)⟩
  · simp only [Value.slice.injEq] at e1
    obtain ⟨rfl, rfl, rfl⟩ := e1
    refine ⟨rfl, fun hz => ⟨g, 0, rfl, fun i hi => ?_⟩⟩
    have ho : w.ownsRow B 22 1 (.slice (some ⟨g, 0, none⟩) xs.length c) xs.length (wrd xs) := ⟨h1, Or.inr ⟨g, c, cur, rfl, hg, hh, hc, hm, hl, ht⟩⟩
    rw [Nat.zero_add, ho.cellAt i (by omega)]
    exact wrd_at xs i (by omega)
theorem Src.take {w : World} {sp : Option Addr} {us : List Int} (h : Src w sp us) (k : Nat) : Src w sp (us.take k) := by
  intro hz
  obtain ⟨b, off, e, hc⟩ := h (by simp at hz; omega)
  refine ⟨b, off, e, fun i hi => ?_⟩
  have hi' : i < us.length ∧ i < k := by simp at hi; omega
  rw [hc i hi'.1]
  simp [hi'.2]
/-- so many as there is room for -/
def tk (L : List Int) (m i : Nat) : List Int := L.take (min i m)
theorem tk_len {L : List Int} {m i : Nat} (h : i ≤ L.length) : (tk L m i).length = min i m := by simp [tk]; omega
theorem tk_snoc {L : List Int} {m i : Nat} (h : i < L.length) (hm : i < m) : tk L m i ++ [L.getD i 0] = tk L m (i + 1) := by
  unfold tk
  rw [show min i m = i by omega, show min (i + 1) m = i + 1 by omega, List.take_add_one]
  simp [h]
theorem tk_far {L : List Int} {m i : Nat} (hm : m ≤ i) : tk L m (i + 1) = tk L m i := by
  unfold tk
  rw [show min i m = m by omega, show min (i + 1) m = m by omega]
theorem dt_cons {L : List Int} {r i : Nat} (hr : r ≤ L.length) (hi : i < r) : (L.take r).drop i = L.getD i 0 :: (L.take r).drop (i + 1) := by
  have h1 : i < (L.take r).length := by simp; omega
  rw [List.drop_eq_getElem_cons h1]
  simp [show i < L.length by omega]
theorem dt_end {L : List Int} {r : Nat} : (L.take r).drop r = [] := by simp
set_option maxHeartbeats 8000000 in
theorem row_law {sp : Option Addr} {L : List Int} {cap : Nat} {w : World} (hs : WSrc w.heap.size w sp L ∧ L.length ≤ cap) (hl : L.length ≤ maxLen) (a : Int) (ha : 0 ≤ a ∧ a ≤ 255) :
    Calls Try.prog 4 #[.int .u8 a, .slice sp L.length cap] w fun e w' => e = .returned (.bool true) ∧ Below w.heap.size w w' := by
  unfold maxLen at hl
  obtain ⟨k, hk⟩ := Int.eq_ofNat_of_zero_le (a := 1 + a % 64) (by omega)
  have k1 : 1 ≤ k := by omega
  have k2 : k ≤ 64 := by omega
  have hC := new_row (w := w) k k1 k2
  obtain ⟨hs, hcap⟩ := hs
  obtain ⟨q, hq⟩ : ∃ q, L.length = q := ⟨_, rfl⟩
  rw [hq] at hl hcap ⊢
  have HQ : Hid (L.length = q) := hq
  have HS : Hid (WSrc w.heap.size w sp L) := hs
  clear hq hs
  by_cases hbig : 300 < q
  · go_enter Try.func4, Try.ntmps4
    go_wp2_with (first
      | (go_at_call 6; refine hC.mono ?_; rintro e w1 ⟨p, f, g, rfl, hx, hp, hf, hg, hB⟩; clear hx hp hf hg)
      | (go_at_call 7; refine (lives_any _).mono ?_; rintro e w2 ⟨rfl, hb2⟩))
    go_ret
    exact ⟨rfl, hB.trans (hb2.mono hB.size)⟩
  · have hsm : ¬ (300 : Int) < (q : Int) := by omega
    go_enter Try.func4, Try.ntmps4
    go_wp2_with (first
      | (go_at_call 6; refine hC.mono ?_; rintro e w1 ⟨p, f, gg, rfl, hx, hp, hf, hg, hB⟩; have H1 : Hid (Rq w1 p f gg k (tk L k 0)) := (by show Rq _ _ _ _ _ _; rw [show tk L k 0 = [] by simp [tk]]; exact hx); have HG : Hid (w.heap.size ≤ gg) := hg; clear hx hp hf hg hC))
    go_loopg [8] q (fun g s8 wx => ∃ i : Nat, i + g = q ∧ s8 = .int .i64 i ∧ Hid (Rq wx p f gg k (tk L k i)) ∧ Below w.heap.size w wx)
    case atStart => exact ⟨0, by omega, rfl, H1, hB⟩
    case round =>
      clear H1 hB
      obtain ⟨i, hig, rfl, HA, hB⟩ := hrel
      have ht := tk_len (L := L) (m := k) (i := i) (by rw [HQ.out]; omega)
      cases gk with
      | succ g =>
        have hlt : (i : Int) < q := by omega
        obtain ⟨bb, off, rfl, hbl, hc⟩ := HS.out.spot (by rw [HQ.out]; omega)
        have hz := (hB.cell (p := ⟨bb, off + i, none⟩) hbl).trans (hc i (by rw [HQ.out]; omega))
        clear hc
        by_cases hr : i < k
        · have hrz : (i : Int) < (k : Int) := by omega
          have E1 : Hid ((tk L k i).length < k) := by show _ < _; omega
          have E2 : Hid (tk L k i ++ [L.getD i 0] = tk L k (i + 1)) := tk_snoc (by rw [HQ.out]; omega) hr
          clear ht
          generalize L.getD i 0 = z at *
          go_wp2_with (first
            | (go_at_call 8; refine (rw_put HA.out E1.out z E2.out).mono ?_; rintro e w2 ⟨rfl, hx, hb2⟩; have H2 : Hid (Rq w2 p f gg k (tk L k (i + 1))) := hx; replace hB := hB.trans (one_below hb2 HG.out hB.size); clear hx hb2))
          go_roundg g
          case measure => omega
          case rel => exact ⟨i + 1, by omega, by go_num, H2, hB⟩
        · have hrz : ¬ (i : Int) < (k : Int) := by omega
          have E1 : Hid ((tk L k i).length = k) := by show _ = _; omega
          have E2 : Hid (tk L k (i + 1) = tk L k i) := tk_far (by omega)
          clear ht
          generalize L.getD i 0 = z at *
          go_wp2_with (first
            | (go_at_call 8; refine (rw_full HA.out E1.out z).mono ?_; rintro e w2 ⟨rfl, hx, hb2⟩; have H2 : Hid (Rq w2 p f gg k (tk L k i)) := hx; replace hB := hB.trans (one_below hb2 HG.out hB.size); clear hx hb2))
          go_roundg g
          case measure => omega
          case rel => exact ⟨i + 1, by omega, by go_num, by rw [E2.out]; exact H2, hB⟩
      | zero =>
        obtain rfl : i = q := by omega
        have hlt : ¬ ((i : Int) < i) := by omega
        obtain ⟨r, hr⟩ : ∃ r, min i k = r := ⟨_, rfl⟩
        have hmn : (if (k : Int) < (i : Int) then (k : Int) else (i : Int)) = (r : Nat) := by split <;> omega
        have hmn2 : (if k < i then (k : Int) else (i : Int)) = (r : Nat) := by split <;> omega
        have hrc : r ≤ cap := by omega
        have R0 : Hid (r ≤ L.length) := by show _ ≤ _; rw [HQ.out]; omega
        have R1 : Hid ((L.take r).length = r) := by show _ = _; rw [List.length_take]; have := R0.out; omega
        have HX : Hid (Rq wr p f gg k (L.take r)) := by show Rq _ _ _ _ _ _; rw [← hr]; exact HA.out
        have hr3 : r ≤ 300 := by omega
        have HSee := rq_see HX.out
        have hfd := field_row
        clear HA ht hr
        go_wp2_with (first
          | (go_at_call 9; refine HSee.mono ?_; rintro e w3 ⟨s1, n1, c1, s2, n2, c2, he, hr, ho, hb3⟩; unfold seec at he; subst he; obtain ⟨hn1, hsr⟩ := Lst.src hr; rw [R1.out] at hn1; subst hn1; have HR : Hid (Src w3 s1 (L.take n1)) := hsr; have H3 : Hid (Rq w3 p f gg k (L.take n1)) := HX.out.below hb3; replace hB := hB.trans (hb3.mono hB.size); clear hr ho hb3 hsr HSee)
          | (go_at_call 10; refine (same_is HR.out ((HS.out.below hB).src.take n1) R1.out (by omega) _ _).mono ?_; rintro e w4 ⟨rfl, hb4⟩; have H4 : Hid (Rq w4 p f gg k ((L.take n1).drop 0)) := (by show Rq _ _ _ _ _ _; rw [List.drop_zero]; exact H3.out.below hb4); replace hB := hB.trans (hb4.mono hB.size); clear hb4))
        clear HR H3 HX
        go_loopg [12] n1 (fun g s12 wx => ∃ j : Nat, j + g = n1 ∧ s12 = .int .i64 j ∧ Hid (Rq wx p f gg k ((L.take n1).drop j)) ∧ Below w.heap.size w wx)
        case atStart => exact ⟨0, by omega, rfl, H4, hB⟩
        case round =>
          clear H4 hB
          obtain ⟨j, hjg, rfl, HA, hB⟩ := hrel
          cases gk with
          | succ g =>
            have hlt2 : (j : Int) < n1 := by omega
            obtain ⟨bb, off, rfl, hbl, hc⟩ := HS.out.spot (by have := R0.out; omega)
            have HZ : Hid (w.cell? ⟨bb, off + j, none⟩ = some (.int .u32 (L.getD j 0))) := hc j (by have := R0.out; omega)
            have E1 := dt_cons R0.out (show j < n1 by omega)
            rw [E1] at HA
            clear hc E1
            generalize L.getD j 0 = z at *
            go_wp2_with (first
              | (go_at_call 8; refine (rw_get H5.out).mono ?_; rintro e w6 ⟨rfl, hx, hb2⟩; have H6 : Hid (Rq w6 p f gg k ((L.take n1).drop (j + 1))) := hx; replace hB := hB.trans (one_below hb2 HG.out hB.size); have hz := (hB.cell (p := ⟨bb, off + j, none⟩) hbl).trans HZ.out; clear hx hb2)
              | (go_at_call 8; refine (rw_peek HA.out).mono ?_; rintro e w5 ⟨rfl, hb2⟩; have H5 : Hid (Rq w5 p f gg k (z :: (L.take n1).drop (j + 1))) := HA.out.below hb2; replace hB := hB.trans (hb2.mono hB.size); clear hb2))
            go_roundg g
            case measure => omega
            case rel => exact ⟨j + 1, by omega, by go_num, H6, hB⟩
          | zero =>
            obtain rfl : j = n1 := by omega
            have hlt2 : ¬ ((j : Int) < j) := by omega
            rw [dt_end] at HA
            go_wp2_with (first
              | (go_at_call 8; refine (rw_none HA.out).mono ?_; rintro e w5 ⟨rfl, hx, hb2⟩; replace hB := hB.trans (one_below hb2 HG.out hB.size); clear hx hb2)
              | (go_at_call 7; refine (lives_any _).mono ?_; rintro e w6 ⟨rfl, hb2⟩))
            go_ret
            exact ⟨rfl, hB.trans (hb2.mono hB.size)⟩
end Go.Proofs.Yteicnekoogmmmaa
