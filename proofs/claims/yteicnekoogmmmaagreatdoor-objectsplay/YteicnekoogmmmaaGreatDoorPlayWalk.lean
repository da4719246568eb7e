/- 'ObjectsPlay' walked: whatever is asked of a thing, and whoever leaves, what it tells, and how it is seen, is the document's own. -/
import Derived.Test.YteicnekoogmmmaaGreatDoorBThing
import Derived.Deep.CutBlock
namespace Go.Proofs.YteicnekoogmmmaaGreatDoor
open Go Go.RowKit
set_option maxRecDepth 100000
set_option linter.unusedVariables false
set_option maxHeartbeats 16000000 in
theorem play_any {w : World} {sa : Option Addr} {acts : List Ac} (ha : Acts w.heap.size w sa acts) (hma : acts.length ≤ maxLen) (ca : Nat) (k a b : Int) (h0 : 0 ≤ a ∧ a ≤ 4294967295) (h1 : 0 ≤ b ∧ b ≤ 4294967295) :
    Calls Tryz.prog 3 #[.agg #[.int .u8 k, .int .u32 a, .int .u32 b], .slice sa acts.length ca] w fun e w' => e = .returned (.bool true) ∧ Below w.heap.size w w' := by
  unfold maxLen at hma
  obtain ⟨m, hm'⟩ : ∃ m, acts.length = m := ⟨_, rfl⟩
  rw [hm'] at hma ⊢
  have HM : Hid (acts.length = m) := hm'
  have HA : Hid (Acts w.heap.size w sa acts) := ha
  clear hm' ha
  by_cases hbig : 300 < m
  · go_enter Tryz.func3, Tryz.ntmps3
    go_wp2_with (first
      | (go_at_call 4; refine (lives_any _).mono ?_; rintro e w2 ⟨rfl, hb2⟩))
    go_ret
    exact ⟨rfl, (alloc_below w _).trans (hb2.mono (alloc_below w _).size)⟩
  · by_cases hmay : May k a b
    rotate_left
    · have HN : Hid (∀ W, Calls Tryz.prog 5 #[.agg #[.int .u8 k, .int .u32 a, .int .u32 b]] W fun e w' => e = .returned (.tuple #[.pointer none, .int .i64 1]) ∧ Below W.heap.size W w') := fun W => new_none h0 h1 hmay
      have HK : Hid (∀ W, Calls Tryz.prog 6 #[.agg #[.int .u8 k, .int .u32 a, .int .u32 b]] W fun e w' => e = .returned (.tuple #[.pointer none, .int .i64 1]) ∧ Below W.heap.size W w') := fun W => knew_no hmay
      have hA := alloc_below w (.cells #[.int .u8 k, .int .u32 a, .int .u32 b] 25)
      have HAA : Hid (Blk (w.alloc (.cells #[.int .u8 k, .int .u32 a, .int .u32 b] 25)) w.heap.size #[.int .u8 k, .int .u32 a, .int .u32 b] 25) := alloc_at w _
      have hlt := HAA.out.lt
      have HB0 : Hid (Below w.heap.size w (w.alloc (.cells #[.int .u8 k, .int .u32 a, .int .u32 b] 25))) := hA
      clear hA
      go_enter Tryz.func3, Tryz.ntmps3
      go_wp2_with (first
        | (go_at_call 5; refine (HN.out _).mono ?_; rintro e w1 ⟨rfl, hb1⟩; have HB1 : Hid (Below w.heap.size w w1) := HB0.out.trans (hb1.mono HB0.out.size); have x0 : w1.cell? ⟨w.heap.size, 0, none⟩ = some (.int .u8 k) := (by rw [(HAA.out.below hb1).cell]; rfl); have x1 : w1.cell? ⟨w.heap.size, 1, none⟩ = some (.int .u32 a) := (by rw [(HAA.out.below hb1).cell]; rfl); have x2 : w1.cell? ⟨w.heap.size, 2, none⟩ = some (.int .u32 b) := (by rw [(HAA.out.below hb1).cell]; rfl); clear hb1)
        | (go_at_call 6; refine (HK.out _).mono ?_; rintro e w2 ⟨rfl, hb2⟩; have HB2 : Hid (Below w.heap.size w w2) := HB1.out.trans (hb2.mono HB1.out.size); clear hb2)
        | (go_at_call 7; refine (try_nil _ _ _ _ _ _).mono ?_; rintro e w3 ⟨rfl, hb3⟩; have HB3 : Hid (Below w.heap.size w w3) := HB2.out.trans (hb3.mono HB2.out.size); clear hb3)
        | (go_at_call 8; refine (leave_nil _).mono ?_; rintro e wx ⟨rfl, hwx⟩; obtain rfl := hwx)
        | (go_at_call 4; refine (lives_any _).mono ?_; rintro e w4 ⟨rfl, hb4⟩; have HB4 : Hid (Below w.heap.size w w4) := HB3.out.trans (hb4.mono HB3.out.size); clear hb4))
      go_ret
      exact ⟨rfl, HB4.out⟩
    · obtain ⟨T0, hT0⟩ : ∃ T0 : Sx, (⟨k, a, b, if k = 1 ∨ k = 4 then a.toNat else 0, 0, [], if k = 5 then List.replicate a.toNat 0 else []⟩ : Sx) = T0 := ⟨_, rfl⟩
      have HN : Hid (∀ W, Calls Tryz.prog 5 #[.agg #[.int .u8 k, .int .u32 a, .int .u32 b]] W fun e w' => ∃ p f g, e = .returned (.tuple #[.pointer (some ⟨p, 0, none⟩), .int .i64 0]) ∧ KT w' p f g T0 ∧ W.heap.size ≤ p ∧ W.heap.size ≤ f ∧ W.heap.size ≤ g ∧ (p < w'.heap.size ∧ f < w'.heap.size ∧ g < w'.heap.size) ∧ Below W.heap.size W w') := fun W => by rw [← hT0]; exact new_x h0 h1 hmay
      have HK : Hid (∀ W, Calls Tryz.prog 6 #[.agg #[.int .u8 k, .int .u32 a, .int .u32 b]] W fun e w' => ∃ q z v, e = .returned (.tuple #[.pointer (some ⟨q, 0, none⟩), .int .i64 0]) ∧ KR w'.heap.size w' q z (.slice none 0 0) v T0 ∧ W.heap.size ≤ q ∧ W.heap.size ≤ z ∧ Below W.heap.size W w') := fun W => (knew_x h0 hmay).mono fun e w' ⟨q, z, v, he, hk⟩ => ⟨q, z, v, he, by rw [← hT0]; exact hk.kr, hk.2.2.1, hk.2.2.2.1, hk.2.2.2.2.2.2.1⟩
      have hA := alloc_below w (.cells #[.int .u8 k, .int .u32 a, .int .u32 b] 25)
      have HAA : Hid (Blk (w.alloc (.cells #[.int .u8 k, .int .u32 a, .int .u32 b] 25)) w.heap.size #[.int .u8 k, .int .u32 a, .int .u32 b] 25) := alloc_at w _
      have hlt := HAA.out.lt
      have HB0 : Hid (Below w.heap.size w (w.alloc (.cells #[.int .u8 k, .int .u32 a, .int .u32 b] 25))) := hA
      clear hA hT0 hmay
      go_enter Tryz.func3, Tryz.ntmps3
      go_wp2_with (first
        | (go_at_call 5; refine (HN.out _).mono ?_; rintro e w1 ⟨p, f, g, rfl, t1, l1, l2, l3, hz, hb1⟩; have HB1 : Hid (Below w.heap.size w w1) := HB0.out.trans (hb1.mono HB0.out.size); have HT1 : Hid (KT w1 p f g T0 ∧ (w.heap.size ≤ f ∧ w.heap.size ≤ g) ∧ p < w1.heap.size ∧ f < w1.heap.size ∧ g < w1.heap.size) := ⟨t1, ⟨Nat.le_trans HB0.out.size l2, Nat.le_trans HB0.out.size l3⟩, hz⟩; have x0 : w1.cell? ⟨w.heap.size, 0, none⟩ = some (.int .u8 k) := (by rw [(HAA.out.below hb1).cell]; rfl); have x1 : w1.cell? ⟨w.heap.size, 1, none⟩ = some (.int .u32 a) := (by rw [(HAA.out.below hb1).cell]; rfl); have x2 : w1.cell? ⟨w.heap.size, 2, none⟩ = some (.int .u32 b) := (by rw [(HAA.out.below hb1).cell]; rfl); clear hb1 t1 l1 l2 l3 hz)
        | (go_at_call 6; refine (HK.out _).mono ?_; rintro e w2 ⟨q, z, vo, rfl, r2, l1, l2, hb2⟩; have HB2 : Hid (Below w.heap.size w w2) := HB1.out.trans (hb2.mono HB1.out.size); have HT2 : Hid (KT w2 p f g T0) := HT1.out.1.below hb2; have HR2 : Hid (KR w2.heap.size w2 q z (.slice none 0 0) vo T0 ∧ (w.heap.size ≤ f ∧ w.heap.size ≤ g ∧ w.heap.size ≤ q ∧ w.heap.size ≤ z) ∧ (p < q ∧ f < q ∧ g < q ∧ p < z ∧ f < z ∧ g < z)) := ⟨r2, ⟨HT1.out.2.1.1, HT1.out.2.1.2, Nat.le_trans HB1.out.size l1, Nat.le_trans HB1.out.size l2⟩, by have := HT1.out.2.2; omega⟩; clear r2 l1 l2 hb2))
      have hba := alloc_below w2 (.cells (bk 0 (.slice none 0 0)) 50)
      have HS0 : Hid (St w (w2.alloc (.cells (bk 0 (.slice none 0 0)) 50)) w2.heap.size p f g q z w2.heap.size (3 * 0) (.slice none 0 0) (.slice none 0 0) vo [] T0 T0) :=
        ⟨HT2.out.below hba, HR2.out.1.below hba, Bk.start (Nat.le_refl _), ⟨fun j e he => by simp at he, fun j k e f _ he => by simp at he, fun j e he => by simp at he, fun j e he => by simp at he⟩, HB2.out.trans (hba.mono HB2.out.size), HR2.out.2.1, HR2.out.2.2, rfl, hba.size⟩
      clear hba HT2 HR2 HB2 HB1 HB0 HT1 HN HK HAA hlt x0 x1 x2
      generalize w2.heap.size = K at *
      go_loopg [12] m (fun gk s12 wx => ∃ (i : Nat) (v u : Value) (E : List Ent) (T : Sx), i + gk = m ∧ s12 = .int .i64 i ∧ Hid (St w wx K p f g q z K (3 * i) v u vo E T T))
      case atStart => exact ⟨0, _, _, _, _, by omega, rfl, HS0⟩
      case round =>
        clear HS0
        obtain ⟨i, v, u, E, T, hig, rfl, HT⟩ := hrel
        cases gk with
        | zero =>
          obtain rfl : i = m := by omega
          have hlt : ¬ ((i : Int) < i) := by omega
          go_wp2_with (first
            | (go_at_call 15; refine (apart_yes HT.out.book HT.out.lists).mono ?_; rintro e w17 ⟨rfl, hd17⟩; have HB17 : Hid (Below w.heap.size w w17) := HT.out.bel.trans (hd17.mono (by have := HT.out.lo; have := HT.out.ref.qs; omega)); clear hd17)
            | (go_at_call 4; refine (lives_any _).mono ?_; rintro e w18 ⟨rfl, hb18⟩; have HB18 : Hid (Below w.heap.size w w18) := HB17.out.trans (hb18.mono HB17.out.size); clear hb18))
          go_ret
          exact ⟨rfl, HB18.out⟩
        | succ g' =>
          have hlt : (i : Int) < m := by omega
          obtain ⟨x, hx⟩ : ∃ x, acts[i]? = some x := ⟨_, List.getElem?_eq_getElem (by rw [HM.out]; omega)⟩
          obtain ⟨bb, off, rfl, hbl, hc⟩ := (HA.out.below HT.out.bel).spot (by rw [HM.out]; omega)
          have hat := hc i x hx
          have hok := HA.out.wf i x hx
          clear hc hx
          obtain ⟨lv, who, wh, ah, av0, am0, aw⟩ := x
          obtain ⟨x0, x1, x2, x3, x4, x5, x6⟩ := hat
          obtain ⟨o1, o2, o3, o4, o5, o6⟩ := hok
          simp only at x0 x1 x2 x3 x4 x5 x6 o1 o2 o3 o4 o5 o6
          obtain ⟨av, rfl⟩ := Int.eq_ofNat_of_zero_le o4.1
          obtain ⟨am, rfl⟩ := Int.eq_ofNat_of_zero_le o5.1
          have HRG : Hid (Rg T) := HT.out.thing.rg
          have hb0 := alloc_below wr (.cells #[.bool lv, .int .u32 who, .int .u8 wh, .int .u32 ah, .int .u32 (av : Nat), .int .u32 (am : Nat), .int .i64 aw] 52)
          have HX : Hid ((wr.alloc (.cells #[.bool lv, .int .u32 who, .int .u8 wh, .int .u32 ah, .int .u32 (av : Nat), .int .u32 (am : Nat), .int .i64 aw] 52)).heap[wr.heap.size]? = some (.cells #[.bool lv, .int .u32 who, .int .u8 wh, .int .u32 ah, .int .u32 (av : Nat), .int .u32 (am : Nat), .int .i64 aw] 52 (0, 0))) := alloc_at wr _
          have HXF : Hid (wr.heap.size ∉ [f, g] ∧ wr.heap.size ∉ [q, z]) := by
            have h1 := HT.out.mid; have h2 := HT.out.ss; have h3 := HT.out.ref.qs; have h4 := HT.out.ref.zs
            constructor <;> simp only [List.mem_cons, List.not_mem_nil, or_false] <;> omega
          have hXlt : wr.heap.size < (wr.alloc (.cells #[.bool lv, .int .u32 who, .int .u8 wh, .int .u32 ah, .int .u32 (av : Nat), .int .u32 (am : Nat), .int .i64 aw] 52)).heap.size := by rw [alloc_size]; omega
          have H4 : Hid (St w (wr.alloc (.cells #[.bool lv, .int .u32 who, .int .u8 wh, .int .u32 ah, .int .u32 (av : Nat), .int .u32 (am : Nat), .int .i64 aw] 52)) K p f g q z K (3 * i) v u vo E T T) := HT.out.below hb0
          clear hb0
          go_upto_region 15 with fail
          obtain ⟨X, hX⟩ : ∃ X, wr.heap.size = X := ⟨_, rfl⟩
          rw [hX] at HX HXF hXlt
          rw [hX]
          clear hX
          generalize wr.alloc (.cells #[.bool lv, .int .u32 who, .int .u8 wh, .int .u32 ah, .int .u32 (av : Nat), .int .u32 (am : Nat), .int .i64 aw] 52) = w4 at *
          have y0 : w4.cell? ⟨X, 0, none⟩ = some (.bool lv) := by rw [cell_of HX.out]; rfl
          have y1 : w4.cell? ⟨X, 1, none⟩ = some (.int .u32 who) := by rw [cell_of HX.out]; rfl
          have y2 : w4.cell? ⟨X, 2, none⟩ = some (.int .u8 wh) := by rw [cell_of HX.out]; rfl
          have y3 : w4.cell? ⟨X, 3, none⟩ = some (.int .u32 ah) := by rw [cell_of HX.out]; rfl
          have y4 : w4.cell? ⟨X, 4, none⟩ = some (.int .u32 (av : Nat)) := by rw [cell_of HX.out]; rfl
          have y5 : w4.cell? ⟨X, 5, none⟩ = some (.int .u32 (am : Nat)) := by rw [cell_of HX.out]; rfl
          have y6 : w4.cell? ⟨X, 6, none⟩ = some (.int .i64 aw) := by rw [cell_of HX.out]; rfl
          clear x0 x1 x2 x3 x4 x5 x6 HT hlt
          go_upto_if 72 with fail
          go_cut [14, 15, 16, 17] from 61 to 116 (fun s14 s15 s16 s17 wx => ∃ (Y : Sx) (u' : Value), Hid (St w wx K p f g q z K (3 * i) v u' vo E Y Y))
          case first =>
            cases lv
            · have HTR : Hid (∀ W, KT W p f g T → Calls Tryz.prog 7 #[.pointer (some ⟨p, 0, none⟩), .int .u32 who, .agg #[.int .u8 wh, .int .u32 ah, .int .u32 (av : Nat), .int .u32 (am : Nat), .int .i64 aw]] W (Ans W p f g (tA T who wh av am))) := fun W h => try_x h who wh ah av am aw o1 (by omega)
              have HKT : Hid (∀ W u, K ≤ W.heap.size → KR K W q z u vo T → Calls Tryz.prog 10 #[.pointer (some ⟨q, 0, none⟩), .int .u32 who, .agg #[.int .u8 wh, .int .u32 ah, .int .u32 (av : Nat), .int .u32 (am : Nat), .int .i64 aw]] W (KAns K W q z vo (tA T who wh av am))) := fun W u hs h => ktry_x h hs HRG.out who wh ah av am aw o1.1 (by omega)
              obtain ⟨⟨r1, r2, Y⟩, hR⟩ : ∃ R, tA T who wh av am = R := ⟨_, rfl⟩
              rw [hR] at HTR HKT
              clear hR
              go_wp2_with (first
                | (go_at_call 7; refine (HTR.out _ H4.out.thing).mono ?_; rintro e w5 ⟨rfl, ht, hb⟩; have H5 : Hid (St w w5 K p f g q z K (3 * i) v u vo E Y T) := H4.out.setThing hb ht; have HX5 : Hid (w5.heap[X]? = some (.cells #[.bool false, .int .u32 who, .int .u8 wh, .int .u32 ah, .int .u32 (av : Nat), .int .u32 (am : Nat), .int .i64 aw] 52 (0, 0))) := (hb.block X (at_lt HX.out) HXF.out.1).trans HX.out; have xx1 : w5.cell? ⟨X, 1, none⟩ = some (.int .u32 who) := (by rw [cell_of HX5.out]; rfl); have xx2 : w5.cell? ⟨X, 2, none⟩ = some (.int .u8 wh) := (by rw [cell_of HX5.out]; rfl); have xx3 : w5.cell? ⟨X, 3, none⟩ = some (.int .u32 ah) := (by rw [cell_of HX5.out]; rfl); have xx4 : w5.cell? ⟨X, 4, none⟩ = some (.int .u32 (av : Nat)) := (by rw [cell_of HX5.out]; rfl); have xx5 : w5.cell? ⟨X, 5, none⟩ = some (.int .u32 (am : Nat)) := (by rw [cell_of HX5.out]; rfl); have xx6 : w5.cell? ⟨X, 6, none⟩ = some (.int .i64 aw) := (by rw [cell_of HX5.out]; rfl); clear ht hb)
                | (go_at_call 10; refine (HKT.out _ _ H5.out.ss H5.out.ref).mono ?_; rintro e w6 ⟨rfl, hr, hb⟩; have H6 : Hid (∃ u', St w w6 K p f g q z K (3 * i) v u' vo E Y Y) := H5.out.setRef hb hr; clear hr hb))
              go_meet
              obtain ⟨u', h6⟩ := H6.out
              exact ⟨Y, u', h6⟩
            · have HLV : Hid (∀ W, KT W p f g T → Calls Tryz.prog 8 #[.pointer (some ⟨p, 0, none⟩), .int .u32 who] W fun e w' => e = .returned (.bool (lB T who)) ∧ KT w' p f g (lT T who) ∧ Buts [f, g] W w') := fun W h => leave_x h who o1.1
              have HKL : Hid (∀ W u, KR K W q z u vo T → Calls Tryz.prog 9 #[.pointer (some ⟨q, 0, none⟩), .int .u32 who] W fun e w' => e = .returned (.bool (lB T who)) ∧ KR K w' q z u vo (lT T who) ∧ Buts [q, z] W w') := fun W u h => kleave_x h HRG.out.zs who
              obtain ⟨Y, hY⟩ : ∃ Y, lT T who = Y := ⟨_, rfl⟩
              obtain ⟨bv, hbv⟩ : ∃ bv, lB T who = bv := ⟨_, rfl⟩
              rw [hY, hbv] at HLV HKL
              clear hY hbv
              have H4d : Hid (St w w4.drew K p f g q z K (3 * i) v u vo E T T) := H4.out.below (below_drewN _ 1)
              have HXd : Hid (w4.drew.heap[X]? = some (.cells #[.bool true, .int .u32 who, .int .u8 wh, .int .u32 ah, .int .u32 (av : Nat), .int .u32 (am : Nat), .int .i64 aw] 52 (0, 0))) := HX.out
              go_wp2
              go_region_held3 (fun w' => w'.cell? ⟨X, 1, none⟩ = some (.int .u32 who)) (go_keep) (first
                | (go_at_call 8; refine (HLV.out _ H4d.out.thing).mono ?_; rintro e w5 ⟨rfl, ht, hb⟩; have H5 : Hid (St w w5 K p f g q z K (3 * i) v u vo E Y T) := H4d.out.setThing hb ht; have HX5 : Hid (w5.heap[X]? = some (.cells #[.bool true, .int .u32 who, .int .u8 wh, .int .u32 ah, .int .u32 (av : Nat), .int .u32 (am : Nat), .int .i64 aw] 52 (0, 0))) := (hb.block X (at_lt HXd.out) HXF.out.1).trans HXd.out; have xx1 : w5.cell? ⟨X, 1, none⟩ = some (.int .u32 who) := (by rw [cell_of HX5.out]; rfl); clear ht hb)
                | (go_at_call 9; refine (HKL.out _ _ H5.out.ref).mono ?_; rintro e w6 ⟨rfl, hr, hb⟩; have H6 : Hid (∃ u', St w w6 K p f g q z K (3 * i) v u' vo E Y Y) := H5.out.setRef hb ⟨_, hr⟩; have HX6 : Hid (w6.heap[X]? = some (.cells #[.bool true, .int .u32 who, .int .u8 wh, .int .u32 ah, .int .u32 (av : Nat), .int .u32 (am : Nat), .int .i64 aw] 52 (0, 0))) := (hb.block X (at_lt HX5.out) HXF.out.2).trans HX5.out; have xy1 : w6.cell? ⟨X, 1, none⟩ = some (.int .u32 who) := (by rw [cell_of HX6.out]; rfl); clear hr hb))
              all_goals
                go_wp2
                go_meet
                obtain ⟨u', h6⟩ := H6.out
                exact ⟨Y, u', h6⟩
          case rest =>
            obtain ⟨Y, u', H5⟩ := hcut
            obtain ⟨k1, a1, b1, c1, o1, xs, zs, n1, n2, hAs⟩ := as_of H5.thing
            have HAs : Hid (As Y k1 a1 b1 c1 o1 xs zs n1 n2) := hAs
            have lb1 : n1 ≤ 64 := hAs.b1
            have lb2 : n2 ≤ 64 := hAs.b2
            have HS5 : Hid (St w wc K p f g q z K (3 * i) v u' vo E Y Y) := H5
            clear hAs H5 HX HXF H4 hXlt
            go_upto_region 23 with (first
              | (go_at_call 11; refine (see_at HS5.out.thing HAs.out).mono ?_; rintro e w6 ⟨s1, d1, s2, d2, rfl, l1, l2, hb, hno⟩; have HS6 : Hid (St w w6 K p f g q z K (3 * i) v u' vo E Y Y) := HS5.out.below hb; have HL6 : Hid (Lst w6 wc.heap.size (.slice s1 n1 d1) xs ∧ Lst w6 wc.heap.size (.slice s2 n2 d2) zs ∧ (s1 = none ∨ s2 = none)) := ⟨l1, l2, hno⟩; have HF6 : Hid ((∀ (j : Nat) (e : Ent), E[j]? = some e → ∀ b, (Value.slice s1 n1 d1).ownBlock = some b → e.v.ownBlock ≠ some b) ∧ (∀ (j : Nat) (e : Ent), E[j]? = some e → ∀ b, (Value.slice s2 n2 d2).ownBlock = some b → e.v.ownBlock ≠ some b)) := ⟨HS5.out.fresh l1 (Nat.le_refl _), HS5.out.fresh l2 (Nat.le_refl _)⟩; clear l1 l2 hb hno))
            have hb7 := alloc_below w6 (.cells #[.int .u32 0, .int .u8 k1, .int .u32 a1, .int .u32 b1, .int .u32 c1, .int .u32 o1, .slice s1 n1 d1, .slice s2 n2 d2, .int .i64 0, .slice none 0 0] 55)
            have HB7 : Hid (Blk (w6.alloc (.cells #[.int .u32 0, .int .u8 k1, .int .u32 a1, .int .u32 b1, .int .u32 c1, .int .u32 o1, .slice s1 n1 d1, .slice s2 n2 d2, .int .i64 0, .slice none 0 0] 55)) w6.heap.size #[.int .u32 0, .int .u8 k1, .int .u32 a1, .int .u32 b1, .int .u32 c1, .int .u32 o1, .slice s1 n1 d1, .slice s2 n2 d2, .int .i64 0, .slice none 0 0] 55) := alloc_at w6 _
            have H7 : Hid (St w (w6.alloc (.cells #[.int .u32 0, .int .u8 k1, .int .u32 a1, .int .u32 b1, .int .u32 c1, .int .u32 o1, .slice s1 n1 d1, .slice s2 n2 d2, .int .i64 0, .slice none 0 0] 55)) K p f g q z K (3 * i) v u' vo E Y Y) := HS6.out.below hb7
            have HL7 : Hid (Lst (w6.alloc (.cells #[.int .u32 0, .int .u8 k1, .int .u32 a1, .int .u32 b1, .int .u32 c1, .int .u32 o1, .slice s1 n1 d1, .slice s2 n2 d2, .int .i64 0, .slice none 0 0] 55)) K (.slice s1 n1 d1) xs ∧ Lst (w6.alloc (.cells #[.int .u32 0, .int .u8 k1, .int .u32 a1, .int .u32 b1, .int .u32 c1, .int .u32 o1, .slice s1 n1 d1, .slice s2 n2 d2, .int .i64 0, .slice none 0 0] 55)) K (.slice s2 n2 d2) zs) := ⟨(HL6.out.1.below hb7).mono HS5.out.ss, (HL6.out.2.1.below hb7).mono HS5.out.ss⟩
            have HNO : Hid (s1 = none ∨ s2 = none) := HL6.out.2.2
            clear hb7 HL6 HS6 HS5
            generalize w6.heap.size = sb at *
            generalize w6.alloc (.cells #[.int .u32 0, .int .u8 k1, .int .u32 a1, .int .u32 b1, .int .u32 c1, .int .u32 o1, .slice s1 n1 d1, .slice s2 n2 d2, .int .i64 0, .slice none 0 0] 55) = w7 at *
            have H7d : Hid (St w w7.drew K p f g q z K (3 * i) v u' vo E Y Y) := H7.out.below (below_drewN _ 1)
            have HB7d : Hid (Blk w7.drew sb #[.int .u32 0, .int .u8 k1, .int .u32 a1, .int .u32 b1, .int .u32 c1, .int .u32 o1, .slice s1 n1 d1, .slice s2 n2 d2, .int .i64 0, .slice none 0 0] 55) := HB7.out.below (below_drewN _ 1)
            have HL7d : Hid (Lst w7.drew K (.slice s1 n1 d1) xs ∧ Lst w7.drew K (.slice s2 n2 d2) zs) := ⟨HL7.out.1.below (below_drewN _ 1), HL7.out.2.below (below_drewN _ 1)⟩
            obtain ⟨p0, p1, p2, p3, p4, p5, p6, p7, p8, p9⟩ := ten_cells (k := k1) (a := a1) (b := b1) (c := c1) (o := o1) HB7.out
            have pl := HB7.out.lt
            clear H7 HL7
            go_region_held3 (fun w' => w'.cell? ⟨sb, 0, none⟩ = some (.int .u32 0) ∧ w'.cell? ⟨sb, 1, none⟩ = some (.int .u8 k1) ∧ w'.cell? ⟨sb, 2, none⟩ = some (.int .u32 a1) ∧ w'.cell? ⟨sb, 3, none⟩ = some (.int .u32 b1) ∧ w'.cell? ⟨sb, 4, none⟩ = some (.int .u32 c1) ∧ w'.cell? ⟨sb, 5, none⟩ = some (.int .u32 o1) ∧ w'.cell? ⟨sb, 6, none⟩ = some (.slice s1 n1 d1) ∧ w'.cell? ⟨sb, 7, none⟩ = some (.slice s2 n2 d2) ∧ w'.cell? ⟨sb, 8, none⟩ = some (.int .i64 0) ∧ w'.cell? ⟨sb, 9, none⟩ = some (.slice none 0 0)) (go_keep) (first
              | (go_at_call 12; have _ := HC8.out; refine (same_thing HC8.out.1 HC8.out.2.1 HC8.out.2.2.1 HC8.out.2.2.2 HAs.out.l1 HAs.out.l2 HAs.out.b1 HAs.out.b2).mono ?_; rintro e w9 ⟨rfl, hb⟩; have H9 : Hid (St w w9 K p f g q z K (3 * i) v u' vo E Y Y) := H8.out.below hb; have HL9 : Hid (Lst w9 K (.slice s1 n1 d1) xs ∧ Lst w9 K (.slice s2 n2 d2) zs) := ⟨HL8.out.1.below hb, HL8.out.2.below hb⟩; have HB9 : Hid (Blk w9 sb #[.int .u32 0, .int .u8 k1, .int .u32 a1, .int .u32 b1, .int .u32 c1, .int .u32 o1, .slice s1 n1 d1, .slice s2 n2 d2, .int .i64 0, .slice none 0 0] 55) := HB8.out.below hb; obtain ⟨m0, m1, m2, m3, m4, m5, m6, m7, m8, m9⟩ := ten_cells (k := k1) (a := a1) (b := b1) (c := c1) (o := o1) HB9.out; have ml := HB9.out.lt; clear hb)
              | (go_at_call 13; refine (ksee_at H7d.out.ref HAs.out).mono ?_; rintro e w8 ⟨t1, e1, t2, e2, rfl, r1, r2, hb⟩; have H8 : Hid (St w w8 K p f g q z K (3 * i) v u' vo E Y Y) := H7d.out.below hb; have HL8 : Hid (Lst w8 K (.slice s1 n1 d1) xs ∧ Lst w8 K (.slice s2 n2 d2) zs) := ⟨HL7d.out.1.below hb, HL7d.out.2.below hb⟩; have HB8 : Hid (Blk w8 sb #[.int .u32 0, .int .u8 k1, .int .u32 a1, .int .u32 b1, .int .u32 c1, .int .u32 o1, .slice s1 n1 d1, .slice s2 n2 d2, .int .i64 0, .slice none 0 0] 55) := HB7d.out.below hb; have HC8 : Hid (Src w8 s1 xs ∧ Src w8 s2 zs ∧ Src w8 t1 xs ∧ Src w8 t2 zs) := ⟨HL8.out.1.src.2, HL8.out.2.src.2, r1, r2⟩; obtain ⟨l0, l1, l2, l3, l4, l5, l6, l7, l8, l9⟩ := ten_cells (k := k1) (a := a1) (b := b1) (c := c1) (o := o1) HB8.out; have ll := HB8.out.lt; clear hb r1 r2))
            all_goals
              go_wp2_with fail
              go_at_call 14
              refine (thing_put (k := k1) (a := a1) (b := b1) (c := c1) (o := o1) H9.out (by omega) HL9.out.1 HL9.out.2 HAs.out.b1 HAs.out.b2 HF6.out.1 HF6.out.2 HNO.out).mono ?_
              rintro e w10 ⟨rfl, v', E', h10⟩
              have H10 : Hid (St w w10 K p f g q z K (3 * (i + 1)) v' u' vo E' Y Y) := h10
              clear h10
              go_wp2
              go_roundg g'
              case measure => omega
              case rel => exact ⟨i + 1, _, _, _, _, by omega, by go_num, H10⟩
end Go.Proofs.YteicnekoogmmmaaGreatDoor
