/- A task's line: the document's answer. -/
import Derived.Test.YtnoadpgnefncjaaDoorChk
import Derived.Test.YtnoadpgnefncjaaDoorRDig
namespace Go.Proofs.YtnoadpgnefncjaaDoor
open Go Go.RowKit
set_option maxRecDepth 100000
set_option linter.unusedVariables false
set_option linter.unusedSimpArgs false
set_option maxHeartbeats 4000000 in
theorem rtext_no (h s : Int) (d : Bool) (b r wh ah av am aw lf an la vl : Int) (hk : ¬ Ok h s b r wh ah av am aw lf an la) (w : World) : Calls Tryd.prog 10 #[.agg #[.int .u32 h, .int .u8 s, .bool d, .int .i64 b, .int .i64 r, .int .u8 wh, .int .u32 ah, .int .u32 av, .int .u32 am, .int .i64 aw, .int .i64 lf, .int .i64 an, .int .i64 la, .int .u32 vl]] w fun e w' => e = .returned (.string (mk [])) ∧ Below w.heap.size w w' := by
  have hC := fun wx => rcheck_any h s d b r wh ah av am aw lf an la vl wx
  rw [(okB_no h s b r wh ah av am aw lf an la).2 hk] at hC
  clear hk
  go_enter Tryd.func10, Tryd.ntmps10
  go_wp2_with (first
    | (go_at_call 8; refine (hC _).mono ?_; rintro e wx ⟨rfl, hb⟩; obtain ⟨hc, hf⟩ := bcell hb))
  go_ret
  exact ⟨rfl, ((Below.refl _ _).alloc (Nat.le_refl _) _).trans (hb.mono (by simp))⟩
theorem add_ok (a b : ByteArray) (n : Nat) (ha : a.size ≤ n) (hb : b.size ≤ 20) (hn : n ≤ 1000) : ∃ c : ByteArray, c.size ≤ n + 20 ∧ (∀ W : World, (Op.stringOp .add a b).run Tryd.prog W = .ok (.string c) W) ∧ Hid (c = a ++ b) :=
  ⟨a ++ b, by rw [ByteArray.size_append]; omega, fun W => run_string_add_sum W a b (by omega), rfl⟩
theorem itoa_sz (n : Int) (h0 : -9223372036854775808 ≤ n) (h1 : n ≤ 9223372036854775807) : (mk (Lib.itoa n)).size ≤ 20 := by rw [mk_size]; exact itoa_len n h0 h1
set_option maxHeartbeats 8000000 in
theorem rtext_1true (h b r wh ah av am aw lf an la vl : Int) (hB : Bd h 1 b r wh ah av am aw lf an la vl) (hk : Ok h 1 b r wh ah av am aw lf an la) (w : World) : Calls Tryd.prog 10 #[.agg #[.int .u32 h, .int .u8 1, .bool true, .int .i64 b, .int .i64 r, .int .u8 wh, .int .u32 ah, .int .u32 av, .int .u32 am, .int .i64 aw, .int .i64 lf, .int .i64 an, .int .i64 la, .int .u32 vl]] w fun e w' => e = .returned (.string (mk (jn (wds h 1 true b r wh ah av am lf an la vl)))) ∧ Below w.heap.size w w' := by
  have hC := fun wx => rcheck_any h 1 true b r wh ah av am aw lf an la vl wx
  rw [(okB_iff h 1 b r wh ah av am aw lf an la).2 hk] at hC
  clear hk
  have HE : Hid ((((((((((((((mk (Lib.itoa h) ++ ⟨#[32, 114, 101, 97, 100, 121]⟩) ++ ⟨#[32, 104, 101, 108, 100]⟩) ++ ⟨#[32]⟩) ++ mk (Lib.itoa b)) ++ ⟨#[32]⟩) ++ mk (Lib.itoa r)) ++ ⟨#[32, 45]⟩) ++ ⟨#[32]⟩) ++ mk (Lib.itoa an)) ++ ⟨#[32]⟩) ++ mk (Lib.itoa la)) ++ ⟨#[32]⟩) ++ mk (Lib.itoa vl)) = mk (jn (wds h 1 true b r wh ah av am lf an la vl))) := by
    show (((((((((((((mk (Lib.itoa h) ++ mk [32, 114, 101, 97, 100, 121]) ++ mk [32, 104, 101, 108, 100]) ++ mk [32]) ++ mk (Lib.itoa b)) ++ mk [32]) ++ mk (Lib.itoa r)) ++ mk [32, 45]) ++ mk [32]) ++ mk (Lib.itoa an)) ++ mk [32]) ++ mk (Lib.itoa la)) ++ mk [32]) ++ mk (Lib.itoa vl)) = _
    simp only [ba_mk]
    refine congrArg mk ?_
    simp [wds, wtw, stw, hdw, jn_two, jn_one]
  have Dh := fun wx => rdig_any h (by have := hB.h; omega) (by have := hB.h; omega) wx
  have Zh := itoa_sz h (by have := hB.h; omega) (by have := hB.h; omega)
  have Lh := hB.h
  have Db := fun wx => rdig_any b (by have := hB.b; omega) (by have := hB.b; omega) wx
  have Zb := itoa_sz b (by have := hB.b; omega) (by have := hB.b; omega)
  have Dr := fun wx => rdig_any r (by have := hB.r; omega) (by have := hB.r; omega) wx
  have Zr := itoa_sz r (by have := hB.r; omega) (by have := hB.r; omega)
  have Dan := fun wx => rdig_any an (by have := hB.an; omega) (by have := hB.an; omega) wx
  have Zan := itoa_sz an (by have := hB.an; omega) (by have := hB.an; omega)
  have Dla := fun wx => rdig_any la (by have := hB.la; omega) (by have := hB.la; omega) wx
  have Zla := itoa_sz la (by have := hB.la; omega) (by have := hB.la; omega)
  have Dvl := fun wx => rdig_any vl (by have := hB.vl; omega) (by have := hB.vl; omega) wx
  have Zvl := itoa_sz vl (by have := hB.vl; omega) (by have := hB.vl; omega)
  have Lvl := hB.vl
  clear hB
  generalize mk (Lib.itoa h) = sh at *
  generalize mk (Lib.itoa b) = sb at *
  generalize mk (Lib.itoa r) = sr at *
  generalize mk (Lib.itoa an) = san at *
  generalize mk (Lib.itoa la) = sla at *
  generalize mk (Lib.itoa vl) = svl at *
  obtain ⟨c0, Z0, A0, H0⟩ := add_ok sh ⟨#[32, 114, 101, 97, 100, 121]⟩ 20 Zh (show (ByteArray.mk #[32, 114, 101, 97, 100, 121]).size ≤ 20 by decide) (by decide)
  obtain ⟨c1, Z1, A1, H1⟩ := add_ok c0 ⟨#[32, 104, 101, 108, 100]⟩ 40 Z0 (show (ByteArray.mk #[32, 104, 101, 108, 100]).size ≤ 20 by decide) (by decide)
  obtain ⟨c2, Z2, A2, H2⟩ := add_ok c1 ⟨#[32]⟩ 60 Z1 (show (ByteArray.mk #[32]).size ≤ 20 by decide) (by decide)
  obtain ⟨c3, Z3, A3, H3⟩ := add_ok c2 sb 80 Z2 Zb (by decide)
  obtain ⟨c4, Z4, A4, H4⟩ := add_ok c3 ⟨#[32]⟩ 100 Z3 (show (ByteArray.mk #[32]).size ≤ 20 by decide) (by decide)
  obtain ⟨c5, Z5, A5, H5⟩ := add_ok c4 sr 120 Z4 Zr (by decide)
  obtain ⟨c6, Z6, A6, H6⟩ := add_ok c5 ⟨#[32, 45]⟩ 140 Z5 (show (ByteArray.mk #[32, 45]).size ≤ 20 by decide) (by decide)
  obtain ⟨c7, Z7, A7, H7⟩ := add_ok c6 ⟨#[32]⟩ 160 Z6 (show (ByteArray.mk #[32]).size ≤ 20 by decide) (by decide)
  obtain ⟨c8, Z8, A8, H8⟩ := add_ok c7 san 180 Z7 Zan (by decide)
  obtain ⟨c9, Z9, A9, H9⟩ := add_ok c8 ⟨#[32]⟩ 200 Z8 (show (ByteArray.mk #[32]).size ≤ 20 by decide) (by decide)
  obtain ⟨c10, Z10, A10, H10⟩ := add_ok c9 sla 220 Z9 Zla (by decide)
  obtain ⟨c11, Z11, A11, H11⟩ := add_ok c10 ⟨#[32]⟩ 240 Z10 (show (ByteArray.mk #[32]).size ≤ 20 by decide) (by decide)
  obtain ⟨c12, Z12, A12, H12⟩ := add_ok c11 svl 260 Z11 Zvl (by decide)
  have HE2 : Hid (c12 = mk (jn (wds h 1 true b r wh ah av am lf an la vl))) := by
    show _ = _
    rw [H12.out, H11.out, H10.out, H9.out, H8.out, H7.out, H6.out, H5.out, H4.out, H3.out, H2.out, H1.out, H0.out]
    exact HE.out
  clear HE H0 H1 H2 H3 H4 H5 H6 H7 H8 H9 H10 H11 H12 Z0 Z1 Z2 Z3 Z4 Z5 Z6 Z7 Z8 Z9 Z10 Z11 Z12 Zh Zb Zr Zan Zla Zvl
  go_enter Tryd.func10, Tryd.ntmps10
  go_wp2_with (first
    | (go_at_call 8; refine (hC _).mono ?_; rintro e w1 ⟨rfl, hb⟩; obtain ⟨hc, hf⟩ := bcell hb; clear hC)
    | (go_at_call_of 26 (Value.int IntKind.i64 h); refine (Dh _).mono ?_; rintro e wx ⟨rfl, hx⟩; obtain rfl := hx.symm))
  have z1 : w.heap.size < w1.heap.size := by have := hb.size; rw [alloc_size] at this; omega
  go_quiet ((first
    | (go_at_call_of 26 (Value.int IntKind.i64 b); exact Calls.quiet_of_same (Db _))
    | (go_at_call_of 26 (Value.int IntKind.i64 r); exact Calls.quiet_of_same (Dr _))))
  obtain ⟨w2, hw2⟩ : ∃ w2, w2 = w1.drewN nq := ⟨_, rfl⟩
  rw [← hw2]
  have b2 : Below w1.heap.size w1 w2 := by rw [hw2]; exact below_drewN w1 nq
  clear hw2
  obtain ⟨hc2, hf2⟩ := bcell b2
  have z2 : w.heap.size < w2.heap.size := by have := b2.size; omega
  go_wp2
  go_quiet ((first
    | (go_at_call_of 26 (Value.int IntKind.i64 an); exact Calls.quiet_of_same (Dan _))
    | (go_at_call_of 26 (Value.int IntKind.i64 la); exact Calls.quiet_of_same (Dla _))
    | (go_at_call_of 26 (Value.int IntKind.i64 vl); exact Calls.quiet_of_same (Dvl _))))
  go_wp2
  go_ret
  refine ⟨ret_s HE2.out, ?_⟩
  have q1 : Below w.heap.size w w1 := ((Below.refl _ _).alloc (Nat.le_refl _) _).trans (hb.mono (by simp))
  have q2 : Below w.heap.size w w2 := q1.trans (b2.mono q1.size)
  exact q2.trans ((below_drewN w2 nq).mono q2.size)
set_option maxHeartbeats 8000000 in
theorem rtext_1false (h b r wh ah av am aw lf an la vl : Int) (hB : Bd h 1 b r wh ah av am aw lf an la vl) (hk : Ok h 1 b r wh ah av am aw lf an la) (w : World) : Calls Tryd.prog 10 #[.agg #[.int .u32 h, .int .u8 1, .bool false, .int .i64 b, .int .i64 r, .int .u8 wh, .int .u32 ah, .int .u32 av, .int .u32 am, .int .i64 aw, .int .i64 lf, .int .i64 an, .int .i64 la, .int .u32 vl]] w fun e w' => e = .returned (.string (mk (jn (wds h 1 false b r wh ah av am lf an la vl)))) ∧ Below w.heap.size w w' := by
  have hC := fun wx => rcheck_any h 1 false b r wh ah av am aw lf an la vl wx
  rw [(okB_iff h 1 b r wh ah av am aw lf an la).2 hk] at hC
  clear hk
  have HE : Hid ((((((((((((((mk (Lib.itoa h) ++ ⟨#[32, 114, 101, 97, 100, 121]⟩) ++ ⟨#[32, 45]⟩) ++ ⟨#[32]⟩) ++ mk (Lib.itoa b)) ++ ⟨#[32]⟩) ++ mk (Lib.itoa r)) ++ ⟨#[32, 45]⟩) ++ ⟨#[32]⟩) ++ mk (Lib.itoa an)) ++ ⟨#[32]⟩) ++ mk (Lib.itoa la)) ++ ⟨#[32]⟩) ++ mk (Lib.itoa vl)) = mk (jn (wds h 1 false b r wh ah av am lf an la vl))) := by
    show (((((((((((((mk (Lib.itoa h) ++ mk [32, 114, 101, 97, 100, 121]) ++ mk [32, 45]) ++ mk [32]) ++ mk (Lib.itoa b)) ++ mk [32]) ++ mk (Lib.itoa r)) ++ mk [32, 45]) ++ mk [32]) ++ mk (Lib.itoa an)) ++ mk [32]) ++ mk (Lib.itoa la)) ++ mk [32]) ++ mk (Lib.itoa vl)) = _
    simp only [ba_mk]
    refine congrArg mk ?_
    simp [wds, wtw, stw, hdw, jn_two, jn_one]
  have Dh := fun wx => rdig_any h (by have := hB.h; omega) (by have := hB.h; omega) wx
  have Zh := itoa_sz h (by have := hB.h; omega) (by have := hB.h; omega)
  have Lh := hB.h
  have Db := fun wx => rdig_any b (by have := hB.b; omega) (by have := hB.b; omega) wx
  have Zb := itoa_sz b (by have := hB.b; omega) (by have := hB.b; omega)
  have Dr := fun wx => rdig_any r (by have := hB.r; omega) (by have := hB.r; omega) wx
  have Zr := itoa_sz r (by have := hB.r; omega) (by have := hB.r; omega)
  have Dan := fun wx => rdig_any an (by have := hB.an; omega) (by have := hB.an; omega) wx
  have Zan := itoa_sz an (by have := hB.an; omega) (by have := hB.an; omega)
  have Dla := fun wx => rdig_any la (by have := hB.la; omega) (by have := hB.la; omega) wx
  have Zla := itoa_sz la (by have := hB.la; omega) (by have := hB.la; omega)
  have Dvl := fun wx => rdig_any vl (by have := hB.vl; omega) (by have := hB.vl; omega) wx
  have Zvl := itoa_sz vl (by have := hB.vl; omega) (by have := hB.vl; omega)
  have Lvl := hB.vl
  clear hB
  generalize mk (Lib.itoa h) = sh at *
  generalize mk (Lib.itoa b) = sb at *
  generalize mk (Lib.itoa r) = sr at *
  generalize mk (Lib.itoa an) = san at *
  generalize mk (Lib.itoa la) = sla at *
  generalize mk (Lib.itoa vl) = svl at *
  obtain ⟨c0, Z0, A0, H0⟩ := add_ok sh ⟨#[32, 114, 101, 97, 100, 121]⟩ 20 Zh (show (ByteArray.mk #[32, 114, 101, 97, 100, 121]).size ≤ 20 by decide) (by decide)
  obtain ⟨c1, Z1, A1, H1⟩ := add_ok c0 ⟨#[32, 45]⟩ 40 Z0 (show (ByteArray.mk #[32, 45]).size ≤ 20 by decide) (by decide)
  obtain ⟨c2, Z2, A2, H2⟩ := add_ok c1 ⟨#[32]⟩ 60 Z1 (show (ByteArray.mk #[32]).size ≤ 20 by decide) (by decide)
  obtain ⟨c3, Z3, A3, H3⟩ := add_ok c2 sb 80 Z2 Zb (by decide)
  obtain ⟨c4, Z4, A4, H4⟩ := add_ok c3 ⟨#[32]⟩ 100 Z3 (show (ByteArray.mk #[32]).size ≤ 20 by decide) (by decide)
  obtain ⟨c5, Z5, A5, H5⟩ := add_ok c4 sr 120 Z4 Zr (by decide)
  obtain ⟨c6, Z6, A6, H6⟩ := add_ok c5 ⟨#[32, 45]⟩ 140 Z5 (show (ByteArray.mk #[32, 45]).size ≤ 20 by decide) (by decide)
  obtain ⟨c7, Z7, A7, H7⟩ := add_ok c6 ⟨#[32]⟩ 160 Z6 (show (ByteArray.mk #[32]).size ≤ 20 by decide) (by decide)
  obtain ⟨c8, Z8, A8, H8⟩ := add_ok c7 san 180 Z7 Zan (by decide)
  obtain ⟨c9, Z9, A9, H9⟩ := add_ok c8 ⟨#[32]⟩ 200 Z8 (show (ByteArray.mk #[32]).size ≤ 20 by decide) (by decide)
  obtain ⟨c10, Z10, A10, H10⟩ := add_ok c9 sla 220 Z9 Zla (by decide)
  obtain ⟨c11, Z11, A11, H11⟩ := add_ok c10 ⟨#[32]⟩ 240 Z10 (show (ByteArray.mk #[32]).size ≤ 20 by decide) (by decide)
  obtain ⟨c12, Z12, A12, H12⟩ := add_ok c11 svl 260 Z11 Zvl (by decide)
  have HE2 : Hid (c12 = mk (jn (wds h 1 false b r wh ah av am lf an la vl))) := by
    show _ = _
    rw [H12.out, H11.out, H10.out, H9.out, H8.out, H7.out, H6.out, H5.out, H4.out, H3.out, H2.out, H1.out, H0.out]
    exact HE.out
  clear HE H0 H1 H2 H3 H4 H5 H6 H7 H8 H9 H10 H11 H12 Z0 Z1 Z2 Z3 Z4 Z5 Z6 Z7 Z8 Z9 Z10 Z11 Z12 Zh Zb Zr Zan Zla Zvl
  go_enter Tryd.func10, Tryd.ntmps10
  go_wp2_with (first
    | (go_at_call 8; refine (hC _).mono ?_; rintro e w1 ⟨rfl, hb⟩; obtain ⟨hc, hf⟩ := bcell hb; clear hC)
    | (go_at_call_of 26 (Value.int IntKind.i64 h); refine (Dh _).mono ?_; rintro e wx ⟨rfl, hx⟩; obtain rfl := hx.symm))
  have z1 : w.heap.size < w1.heap.size := by have := hb.size; rw [alloc_size] at this; omega
  go_quiet ((first
    | (go_at_call_of 26 (Value.int IntKind.i64 b); exact Calls.quiet_of_same (Db _))
    | (go_at_call_of 26 (Value.int IntKind.i64 r); exact Calls.quiet_of_same (Dr _))))
  obtain ⟨w2, hw2⟩ : ∃ w2, w2 = w1.drewN nq := ⟨_, rfl⟩
  rw [← hw2]
  have b2 : Below w1.heap.size w1 w2 := by rw [hw2]; exact below_drewN w1 nq
  clear hw2
  obtain ⟨hc2, hf2⟩ := bcell b2
  have z2 : w.heap.size < w2.heap.size := by have := b2.size; omega
  go_wp2
  go_quiet ((first
    | (go_at_call_of 26 (Value.int IntKind.i64 an); exact Calls.quiet_of_same (Dan _))
    | (go_at_call_of 26 (Value.int IntKind.i64 la); exact Calls.quiet_of_same (Dla _))
    | (go_at_call_of 26 (Value.int IntKind.i64 vl); exact Calls.quiet_of_same (Dvl _))))
  go_wp2
  go_ret
  refine ⟨ret_s HE2.out, ?_⟩
  have q1 : Below w.heap.size w w1 := ((Below.refl _ _).alloc (Nat.le_refl _) _).trans (hb.mono (by simp))
  have q2 : Below w.heap.size w w2 := q1.trans (b2.mono q1.size)
  exact q2.trans ((below_drewN w2 nq).mono q2.size)
set_option maxHeartbeats 8000000 in
theorem rtext_2true (h b r wh ah av am aw lf an la vl : Int) (hB : Bd h 2 b r wh ah av am aw lf an la vl) (hk : Ok h 2 b r wh ah av am aw lf an la) (w : World) : Calls Tryd.prog 10 #[.agg #[.int .u32 h, .int .u8 2, .bool true, .int .i64 b, .int .i64 r, .int .u8 wh, .int .u32 ah, .int .u32 av, .int .u32 am, .int .i64 aw, .int .i64 lf, .int .i64 an, .int .i64 la, .int .u32 vl]] w fun e w' => e = .returned (.string (mk (jn (wds h 2 true b r wh ah av am lf an la vl)))) ∧ Below w.heap.size w w' := by
  have hC := fun wx => rcheck_any h 2 true b r wh ah av am aw lf an la vl wx
  rw [(okB_iff h 2 b r wh ah av am aw lf an la).2 hk] at hC
  clear hk
  have HE : Hid (((((((((((((((((((((((mk (Lib.itoa h) ++ ⟨#[32, 119, 97, 105, 116, 115]⟩) ++ ⟨#[32, 104, 101, 108, 100]⟩) ++ ⟨#[32]⟩) ++ mk (Lib.itoa b)) ++ ⟨#[32]⟩) ++ mk (Lib.itoa r)) ++ ⟨#[32]⟩) ++ mk (Lib.itoa wh)) ++ ⟨#[32]⟩) ++ mk (Lib.itoa ah)) ++ ⟨#[32]⟩) ++ mk (Lib.itoa av)) ++ ⟨#[32]⟩) ++ mk (Lib.itoa am)) ++ ⟨#[32]⟩) ++ mk (Lib.itoa lf)) ++ ⟨#[32]⟩) ++ mk (Lib.itoa an)) ++ ⟨#[32]⟩) ++ mk (Lib.itoa la)) ++ ⟨#[32]⟩) ++ mk (Lib.itoa vl)) = mk (jn (wds h 2 true b r wh ah av am lf an la vl))) := by
    show ((((((((((((((((((((((mk (Lib.itoa h) ++ mk [32, 119, 97, 105, 116, 115]) ++ mk [32, 104, 101, 108, 100]) ++ mk [32]) ++ mk (Lib.itoa b)) ++ mk [32]) ++ mk (Lib.itoa r)) ++ mk [32]) ++ mk (Lib.itoa wh)) ++ mk [32]) ++ mk (Lib.itoa ah)) ++ mk [32]) ++ mk (Lib.itoa av)) ++ mk [32]) ++ mk (Lib.itoa am)) ++ mk [32]) ++ mk (Lib.itoa lf)) ++ mk [32]) ++ mk (Lib.itoa an)) ++ mk [32]) ++ mk (Lib.itoa la)) ++ mk [32]) ++ mk (Lib.itoa vl)) = _
    simp only [ba_mk]
    refine congrArg mk ?_
    simp [wds, wtw, stw, hdw, jn_two, jn_one]
  have Dh := fun wx => rdig_any h (by have := hB.h; omega) (by have := hB.h; omega) wx
  have Zh := itoa_sz h (by have := hB.h; omega) (by have := hB.h; omega)
  have Lh := hB.h
  have Db := fun wx => rdig_any b (by have := hB.b; omega) (by have := hB.b; omega) wx
  have Zb := itoa_sz b (by have := hB.b; omega) (by have := hB.b; omega)
  have Dr := fun wx => rdig_any r (by have := hB.r; omega) (by have := hB.r; omega) wx
  have Zr := itoa_sz r (by have := hB.r; omega) (by have := hB.r; omega)
  have Dwh := fun wx => rdig_any wh (by have := hB.wh; omega) (by have := hB.wh; omega) wx
  have Zwh := itoa_sz wh (by have := hB.wh; omega) (by have := hB.wh; omega)
  have Lwh := hB.wh
  have Dah := fun wx => rdig_any ah (by have := hB.ah; omega) (by have := hB.ah; omega) wx
  have Zah := itoa_sz ah (by have := hB.ah; omega) (by have := hB.ah; omega)
  have Lah := hB.ah
  have Dav := fun wx => rdig_any av (by have := hB.av; omega) (by have := hB.av; omega) wx
  have Zav := itoa_sz av (by have := hB.av; omega) (by have := hB.av; omega)
  have Lav := hB.av
  have Dam := fun wx => rdig_any am (by have := hB.am; omega) (by have := hB.am; omega) wx
  have Zam := itoa_sz am (by have := hB.am; omega) (by have := hB.am; omega)
  have Lam := hB.am
  have Dlf := fun wx => rdig_any lf (by have := hB.lf; omega) (by have := hB.lf; omega) wx
  have Zlf := itoa_sz lf (by have := hB.lf; omega) (by have := hB.lf; omega)
  have Dan := fun wx => rdig_any an (by have := hB.an; omega) (by have := hB.an; omega) wx
  have Zan := itoa_sz an (by have := hB.an; omega) (by have := hB.an; omega)
  have Dla := fun wx => rdig_any la (by have := hB.la; omega) (by have := hB.la; omega) wx
  have Zla := itoa_sz la (by have := hB.la; omega) (by have := hB.la; omega)
  have Dvl := fun wx => rdig_any vl (by have := hB.vl; omega) (by have := hB.vl; omega) wx
  have Zvl := itoa_sz vl (by have := hB.vl; omega) (by have := hB.vl; omega)
  have Lvl := hB.vl
  clear hB
  generalize mk (Lib.itoa h) = sh at *
  generalize mk (Lib.itoa b) = sb at *
  generalize mk (Lib.itoa r) = sr at *
  generalize mk (Lib.itoa wh) = swh at *
  generalize mk (Lib.itoa ah) = sah at *
  generalize mk (Lib.itoa av) = sav at *
  generalize mk (Lib.itoa am) = sam at *
  generalize mk (Lib.itoa lf) = slf at *
  generalize mk (Lib.itoa an) = san at *
  generalize mk (Lib.itoa la) = sla at *
  generalize mk (Lib.itoa vl) = svl at *
  obtain ⟨c0, Z0, A0, H0⟩ := add_ok sh ⟨#[32, 119, 97, 105, 116, 115]⟩ 20 Zh (show (ByteArray.mk #[32, 119, 97, 105, 116, 115]).size ≤ 20 by decide) (by decide)
  obtain ⟨c1, Z1, A1, H1⟩ := add_ok c0 ⟨#[32, 104, 101, 108, 100]⟩ 40 Z0 (show (ByteArray.mk #[32, 104, 101, 108, 100]).size ≤ 20 by decide) (by decide)
  obtain ⟨c2, Z2, A2, H2⟩ := add_ok c1 ⟨#[32]⟩ 60 Z1 (show (ByteArray.mk #[32]).size ≤ 20 by decide) (by decide)
  obtain ⟨c3, Z3, A3, H3⟩ := add_ok c2 sb 80 Z2 Zb (by decide)
  obtain ⟨c4, Z4, A4, H4⟩ := add_ok c3 ⟨#[32]⟩ 100 Z3 (show (ByteArray.mk #[32]).size ≤ 20 by decide) (by decide)
  obtain ⟨c5, Z5, A5, H5⟩ := add_ok c4 sr 120 Z4 Zr (by decide)
  obtain ⟨c6, Z6, A6, H6⟩ := add_ok c5 ⟨#[32]⟩ 140 Z5 (show (ByteArray.mk #[32]).size ≤ 20 by decide) (by decide)
  obtain ⟨c7, Z7, A7, H7⟩ := add_ok c6 swh 160 Z6 Zwh (by decide)
  obtain ⟨c8, Z8, A8, H8⟩ := add_ok c7 ⟨#[32]⟩ 180 Z7 (show (ByteArray.mk #[32]).size ≤ 20 by decide) (by decide)
  obtain ⟨c9, Z9, A9, H9⟩ := add_ok c8 sah 200 Z8 Zah (by decide)
  obtain ⟨c10, Z10, A10, H10⟩ := add_ok c9 ⟨#[32]⟩ 220 Z9 (show (ByteArray.mk #[32]).size ≤ 20 by decide) (by decide)
  obtain ⟨c11, Z11, A11, H11⟩ := add_ok c10 sav 240 Z10 Zav (by decide)
  obtain ⟨c12, Z12, A12, H12⟩ := add_ok c11 ⟨#[32]⟩ 260 Z11 (show (ByteArray.mk #[32]).size ≤ 20 by decide) (by decide)
  obtain ⟨c13, Z13, A13, H13⟩ := add_ok c12 sam 280 Z12 Zam (by decide)
  obtain ⟨c14, Z14, A14, H14⟩ := add_ok c13 ⟨#[32]⟩ 300 Z13 (show (ByteArray.mk #[32]).size ≤ 20 by decide) (by decide)
  obtain ⟨c15, Z15, A15, H15⟩ := add_ok c14 slf 320 Z14 Zlf (by decide)
  obtain ⟨c16, Z16, A16, H16⟩ := add_ok c15 ⟨#[32]⟩ 340 Z15 (show (ByteArray.mk #[32]).size ≤ 20 by decide) (by decide)
  obtain ⟨c17, Z17, A17, H17⟩ := add_ok c16 san 360 Z16 Zan (by decide)
  obtain ⟨c18, Z18, A18, H18⟩ := add_ok c17 ⟨#[32]⟩ 380 Z17 (show (ByteArray.mk #[32]).size ≤ 20 by decide) (by decide)
  obtain ⟨c19, Z19, A19, H19⟩ := add_ok c18 sla 400 Z18 Zla (by decide)
  obtain ⟨c20, Z20, A20, H20⟩ := add_ok c19 ⟨#[32]⟩ 420 Z19 (show (ByteArray.mk #[32]).size ≤ 20 by decide) (by decide)
  obtain ⟨c21, Z21, A21, H21⟩ := add_ok c20 svl 440 Z20 Zvl (by decide)
  have HE2 : Hid (c21 = mk (jn (wds h 2 true b r wh ah av am lf an la vl))) := by
    show _ = _
    rw [H21.out, H20.out, H19.out, H18.out, H17.out, H16.out, H15.out, H14.out, H13.out, H12.out, H11.out, H10.out, H9.out, H8.out, H7.out, H6.out, H5.out, H4.out, H3.out, H2.out, H1.out, H0.out]
    exact HE.out
  clear HE H0 H1 H2 H3 H4 H5 H6 H7 H8 H9 H10 H11 H12 H13 H14 H15 H16 H17 H18 H19 H20 H21 Z0 Z1 Z2 Z3 Z4 Z5 Z6 Z7 Z8 Z9 Z10 Z11 Z12 Z13 Z14 Z15 Z16 Z17 Z18 Z19 Z20 Z21 Zh Zb Zr Zwh Zah Zav Zam Zlf Zan Zla Zvl
  go_enter Tryd.func10, Tryd.ntmps10
  go_wp2_with (first
    | (go_at_call 8; refine (hC _).mono ?_; rintro e w1 ⟨rfl, hb⟩; obtain ⟨hc, hf⟩ := bcell hb; clear hC)
    | (go_at_call_of 26 (Value.int IntKind.i64 h); refine (Dh _).mono ?_; rintro e wx ⟨rfl, hx⟩; obtain rfl := hx.symm))
  have z1 : w.heap.size < w1.heap.size := by have := hb.size; rw [alloc_size] at this; omega
  go_quiet ((first
    | (go_at_call_of 26 (Value.int IntKind.i64 b); exact Calls.quiet_of_same (Db _))
    | (go_at_call_of 26 (Value.int IntKind.i64 r); exact Calls.quiet_of_same (Dr _))))
  obtain ⟨w2, hw2⟩ : ∃ w2, w2 = w1.drewN nq := ⟨_, rfl⟩
  rw [← hw2]
  have b2 : Below w1.heap.size w1 w2 := by rw [hw2]; exact below_drewN w1 nq
  clear hw2
  obtain ⟨hc2, hf2⟩ := bcell b2
  have z2 : w.heap.size < w2.heap.size := by have := b2.size; omega
  go_wp2
  go_quiet ((first
    | (go_at_call_of 26 (Value.int IntKind.i64 wh); exact Calls.quiet_of_same (Dwh _))
    | (go_at_call_of 26 (Value.int IntKind.i64 ah); exact Calls.quiet_of_same (Dah _))
    | (go_at_call_of 26 (Value.int IntKind.i64 av); exact Calls.quiet_of_same (Dav _))
    | (go_at_call_of 26 (Value.int IntKind.i64 am); exact Calls.quiet_of_same (Dam _))
    | (go_at_call_of 26 (Value.int IntKind.i64 lf); exact Calls.quiet_of_same (Dlf _))))
  obtain ⟨w3, hw3⟩ : ∃ w3, w3 = w2.drewN nq := ⟨_, rfl⟩
  rw [← hw3]
  have b3 : Below w2.heap.size w2 w3 := by rw [hw3]; exact below_drewN w2 nq
  clear hw3
  obtain ⟨hc3, hf3⟩ := bcell b3
  have z3 : w.heap.size < w3.heap.size := by have := b3.size; omega
  go_wp2
  go_quiet ((first
    | (go_at_call_of 26 (Value.int IntKind.i64 an); exact Calls.quiet_of_same (Dan _))
    | (go_at_call_of 26 (Value.int IntKind.i64 la); exact Calls.quiet_of_same (Dla _))
    | (go_at_call_of 26 (Value.int IntKind.i64 vl); exact Calls.quiet_of_same (Dvl _))))
  go_wp2
  go_ret
  refine ⟨ret_s HE2.out, ?_⟩
  have q1 : Below w.heap.size w w1 := ((Below.refl _ _).alloc (Nat.le_refl _) _).trans (hb.mono (by simp))
  have q2 : Below w.heap.size w w2 := q1.trans (b2.mono q1.size)
  have q3 : Below w.heap.size w w3 := q2.trans (b3.mono q2.size)
  exact q3.trans ((below_drewN w3 nq).mono q3.size)
set_option maxHeartbeats 8000000 in
theorem rtext_2false (h b r wh ah av am aw lf an la vl : Int) (hB : Bd h 2 b r wh ah av am aw lf an la vl) (hk : Ok h 2 b r wh ah av am aw lf an la) (w : World) : Calls Tryd.prog 10 #[.agg #[.int .u32 h, .int .u8 2, .bool false, .int .i64 b, .int .i64 r, .int .u8 wh, .int .u32 ah, .int .u32 av, .int .u32 am, .int .i64 aw, .int .i64 lf, .int .i64 an, .int .i64 la, .int .u32 vl]] w fun e w' => e = .returned (.string (mk (jn (wds h 2 false b r wh ah av am lf an la vl)))) ∧ Below w.heap.size w w' := by
  have hC := fun wx => rcheck_any h 2 false b r wh ah av am aw lf an la vl wx
  rw [(okB_iff h 2 b r wh ah av am aw lf an la).2 hk] at hC
  clear hk
  have HE : Hid (((((((((((((((((((((((mk (Lib.itoa h) ++ ⟨#[32, 119, 97, 105, 116, 115]⟩) ++ ⟨#[32, 45]⟩) ++ ⟨#[32]⟩) ++ mk (Lib.itoa b)) ++ ⟨#[32]⟩) ++ mk (Lib.itoa r)) ++ ⟨#[32]⟩) ++ mk (Lib.itoa wh)) ++ ⟨#[32]⟩) ++ mk (Lib.itoa ah)) ++ ⟨#[32]⟩) ++ mk (Lib.itoa av)) ++ ⟨#[32]⟩) ++ mk (Lib.itoa am)) ++ ⟨#[32]⟩) ++ mk (Lib.itoa lf)) ++ ⟨#[32]⟩) ++ mk (Lib.itoa an)) ++ ⟨#[32]⟩) ++ mk (Lib.itoa la)) ++ ⟨#[32]⟩) ++ mk (Lib.itoa vl)) = mk (jn (wds h 2 false b r wh ah av am lf an la vl))) := by
    show ((((((((((((((((((((((mk (Lib.itoa h) ++ mk [32, 119, 97, 105, 116, 115]) ++ mk [32, 45]) ++ mk [32]) ++ mk (Lib.itoa b)) ++ mk [32]) ++ mk (Lib.itoa r)) ++ mk [32]) ++ mk (Lib.itoa wh)) ++ mk [32]) ++ mk (Lib.itoa ah)) ++ mk [32]) ++ mk (Lib.itoa av)) ++ mk [32]) ++ mk (Lib.itoa am)) ++ mk [32]) ++ mk (Lib.itoa lf)) ++ mk [32]) ++ mk (Lib.itoa an)) ++ mk [32]) ++ mk (Lib.itoa la)) ++ mk [32]) ++ mk (Lib.itoa vl)) = _
    simp only [ba_mk]
    refine congrArg mk ?_
    simp [wds, wtw, stw, hdw, jn_two, jn_one]
  have Dh := fun wx => rdig_any h (by have := hB.h; omega) (by have := hB.h; omega) wx
  have Zh := itoa_sz h (by have := hB.h; omega) (by have := hB.h; omega)
  have Lh := hB.h
  have Db := fun wx => rdig_any b (by have := hB.b; omega) (by have := hB.b; omega) wx
  have Zb := itoa_sz b (by have := hB.b; omega) (by have := hB.b; omega)
  have Dr := fun wx => rdig_any r (by have := hB.r; omega) (by have := hB.r; omega) wx
  have Zr := itoa_sz r (by have := hB.r; omega) (by have := hB.r; omega)
  have Dwh := fun wx => rdig_any wh (by have := hB.wh; omega) (by have := hB.wh; omega) wx
  have Zwh := itoa_sz wh (by have := hB.wh; omega) (by have := hB.wh; omega)
  have Lwh := hB.wh
  have Dah := fun wx => rdig_any ah (by have := hB.ah; omega) (by have := hB.ah; omega) wx
  have Zah := itoa_sz ah (by have := hB.ah; omega) (by have := hB.ah; omega)
  have Lah := hB.ah
  have Dav := fun wx => rdig_any av (by have := hB.av; omega) (by have := hB.av; omega) wx
  have Zav := itoa_sz av (by have := hB.av; omega) (by have := hB.av; omega)
  have Lav := hB.av
  have Dam := fun wx => rdig_any am (by have := hB.am; omega) (by have := hB.am; omega) wx
  have Zam := itoa_sz am (by have := hB.am; omega) (by have := hB.am; omega)
  have Lam := hB.am
  have Dlf := fun wx => rdig_any lf (by have := hB.lf; omega) (by have := hB.lf; omega) wx
  have Zlf := itoa_sz lf (by have := hB.lf; omega) (by have := hB.lf; omega)
  have Dan := fun wx => rdig_any an (by have := hB.an; omega) (by have := hB.an; omega) wx
  have Zan := itoa_sz an (by have := hB.an; omega) (by have := hB.an; omega)
  have Dla := fun wx => rdig_any la (by have := hB.la; omega) (by have := hB.la; omega) wx
  have Zla := itoa_sz la (by have := hB.la; omega) (by have := hB.la; omega)
  have Dvl := fun wx => rdig_any vl (by have := hB.vl; omega) (by have := hB.vl; omega) wx
  have Zvl := itoa_sz vl (by have := hB.vl; omega) (by have := hB.vl; omega)
  have Lvl := hB.vl
  clear hB
  generalize mk (Lib.itoa h) = sh at *
  generalize mk (Lib.itoa b) = sb at *
  generalize mk (Lib.itoa r) = sr at *
  generalize mk (Lib.itoa wh) = swh at *
  generalize mk (Lib.itoa ah) = sah at *
  generalize mk (Lib.itoa av) = sav at *
  generalize mk (Lib.itoa am) = sam at *
  generalize mk (Lib.itoa lf) = slf at *
  generalize mk (Lib.itoa an) = san at *
  generalize mk (Lib.itoa la) = sla at *
  generalize mk (Lib.itoa vl) = svl at *
  obtain ⟨c0, Z0, A0, H0⟩ := add_ok sh ⟨#[32, 119, 97, 105, 116, 115]⟩ 20 Zh (show (ByteArray.mk #[32, 119, 97, 105, 116, 115]).size ≤ 20 by decide) (by decide)
  obtain ⟨c1, Z1, A1, H1⟩ := add_ok c0 ⟨#[32, 45]⟩ 40 Z0 (show (ByteArray.mk #[32, 45]).size ≤ 20 by decide) (by decide)
  obtain ⟨c2, Z2, A2, H2⟩ := add_ok c1 ⟨#[32]⟩ 60 Z1 (show (ByteArray.mk #[32]).size ≤ 20 by decide) (by decide)
  obtain ⟨c3, Z3, A3, H3⟩ := add_ok c2 sb 80 Z2 Zb (by decide)
  obtain ⟨c4, Z4, A4, H4⟩ := add_ok c3 ⟨#[32]⟩ 100 Z3 (show (ByteArray.mk #[32]).size ≤ 20 by decide) (by decide)
  obtain ⟨c5, Z5, A5, H5⟩ := add_ok c4 sr 120 Z4 Zr (by decide)
  obtain ⟨c6, Z6, A6, H6⟩ := add_ok c5 ⟨#[32]⟩ 140 Z5 (show (ByteArray.mk #[32]).size ≤ 20 by decide) (by decide)
  obtain ⟨c7, Z7, A7, H7⟩ := add_ok c6 swh 160 Z6 Zwh (by decide)
  obtain ⟨c8, Z8, A8, H8⟩ := add_ok c7 ⟨#[32]⟩ 180 Z7 (show (ByteArray.mk #[32]).size ≤ 20 by decide) (by decide)
  obtain ⟨c9, Z9, A9, H9⟩ := add_ok c8 sah 200 Z8 Zah (by decide)
  obtain ⟨c10, Z10, A10, H10⟩ := add_ok c9 ⟨#[32]⟩ 220 Z9 (show (ByteArray.mk #[32]).size ≤ 20 by decide) (by decide)
  obtain ⟨c11, Z11, A11, H11⟩ := add_ok c10 sav 240 Z10 Zav (by decide)
  obtain ⟨c12, Z12, A12, H12⟩ := add_ok c11 ⟨#[32]⟩ 260 Z11 (show (ByteArray.mk #[32]).size ≤ 20 by decide) (by decide)
  obtain ⟨c13, Z13, A13, H13⟩ := add_ok c12 sam 280 Z12 Zam (by decide)
  obtain ⟨c14, Z14, A14, H14⟩ := add_ok c13 ⟨#[32]⟩ 300 Z13 (show (ByteArray.mk #[32]).size ≤ 20 by decide) (by decide)
  obtain ⟨c15, Z15, A15, H15⟩ := add_ok c14 slf 320 Z14 Zlf (by decide)
  obtain ⟨c16, Z16, A16, H16⟩ := add_ok c15 ⟨#[32]⟩ 340 Z15 (show (ByteArray.mk #[32]).size ≤ 20 by decide) (by decide)
  obtain ⟨c17, Z17, A17, H17⟩ := add_ok c16 san 360 Z16 Zan (by decide)
  obtain ⟨c18, Z18, A18, H18⟩ := add_ok c17 ⟨#[32]⟩ 380 Z17 (show (ByteArray.mk #[32]).size ≤ 20 by decide) (by decide)
  obtain ⟨c19, Z19, A19, H19⟩ := add_ok c18 sla 400 Z18 Zla (by decide)
  obtain ⟨c20, Z20, A20, H20⟩ := add_ok c19 ⟨#[32]⟩ 420 Z19 (show (ByteArray.mk #[32]).size ≤ 20 by decide) (by decide)
  obtain ⟨c21, Z21, A21, H21⟩ := add_ok c20 svl 440 Z20 Zvl (by decide)
  have HE2 : Hid (c21 = mk (jn (wds h 2 false b r wh ah av am lf an la vl))) := by
    show _ = _
    rw [H21.out, H20.out, H19.out, H18.out, H17.out, H16.out, H15.out, H14.out, H13.out, H12.out, H11.out, H10.out, H9.out, H8.out, H7.out, H6.out, H5.out, H4.out, H3.out, H2.out, H1.out, H0.out]
    exact HE.out
  clear HE H0 H1 H2 H3 H4 H5 H6 H7 H8 H9 H10 H11 H12 H13 H14 H15 H16 H17 H18 H19 H20 H21 Z0 Z1 Z2 Z3 Z4 Z5 Z6 Z7 Z8 Z9 Z10 Z11 Z12 Z13 Z14 Z15 Z16 Z17 Z18 Z19 Z20 Z21 Zh Zb Zr Zwh Zah Zav Zam Zlf Zan Zla Zvl
  go_enter Tryd.func10, Tryd.ntmps10
  go_wp2_with (first
    | (go_at_call 8; refine (hC _).mono ?_; rintro e w1 ⟨rfl, hb⟩; obtain ⟨hc, hf⟩ := bcell hb; clear hC)
    | (go_at_call_of 26 (Value.int IntKind.i64 h); refine (Dh _).mono ?_; rintro e wx ⟨rfl, hx⟩; obtain rfl := hx.symm))
  have z1 : w.heap.size < w1.heap.size := by have := hb.size; rw [alloc_size] at this; omega
  go_quiet ((first
    | (go_at_call_of 26 (Value.int IntKind.i64 b); exact Calls.quiet_of_same (Db _))
    | (go_at_call_of 26 (Value.int IntKind.i64 r); exact Calls.quiet_of_same (Dr _))))
  obtain ⟨w2, hw2⟩ : ∃ w2, w2 = w1.drewN nq := ⟨_, rfl⟩
  rw [← hw2]
  have b2 : Below w1.heap.size w1 w2 := by rw [hw2]; exact below_drewN w1 nq
  clear hw2
  obtain ⟨hc2, hf2⟩ := bcell b2
  have z2 : w.heap.size < w2.heap.size := by have := b2.size; omega
  go_wp2
  go_quiet ((first
    | (go_at_call_of 26 (Value.int IntKind.i64 wh); exact Calls.quiet_of_same (Dwh _))
    | (go_at_call_of 26 (Value.int IntKind.i64 ah); exact Calls.quiet_of_same (Dah _))
    | (go_at_call_of 26 (Value.int IntKind.i64 av); exact Calls.quiet_of_same (Dav _))
    | (go_at_call_of 26 (Value.int IntKind.i64 am); exact Calls.quiet_of_same (Dam _))
    | (go_at_call_of 26 (Value.int IntKind.i64 lf); exact Calls.quiet_of_same (Dlf _))))
  obtain ⟨w3, hw3⟩ : ∃ w3, w3 = w2.drewN nq := ⟨_, rfl⟩
  rw [← hw3]
  have b3 : Below w2.heap.size w2 w3 := by rw [hw3]; exact below_drewN w2 nq
  clear hw3
  obtain ⟨hc3, hf3⟩ := bcell b3
  have z3 : w.heap.size < w3.heap.size := by have := b3.size; omega
  go_wp2
  go_quiet ((first
    | (go_at_call_of 26 (Value.int IntKind.i64 an); exact Calls.quiet_of_same (Dan _))
    | (go_at_call_of 26 (Value.int IntKind.i64 la); exact Calls.quiet_of_same (Dla _))
    | (go_at_call_of 26 (Value.int IntKind.i64 vl); exact Calls.quiet_of_same (Dvl _))))
  go_wp2
  go_ret
  refine ⟨ret_s HE2.out, ?_⟩
  have q1 : Below w.heap.size w w1 := ((Below.refl _ _).alloc (Nat.le_refl _) _).trans (hb.mono (by simp))
  have q2 : Below w.heap.size w w2 := q1.trans (b2.mono q1.size)
  have q3 : Below w.heap.size w w3 := q2.trans (b3.mono q2.size)
  exact q3.trans ((below_drewN w3 nq).mono q3.size)
set_option maxHeartbeats 8000000 in
theorem rtext_3true (h b r wh ah av am aw lf an la vl : Int) (hB : Bd h 3 b r wh ah av am aw lf an la vl) (hk : Ok h 3 b r wh ah av am aw lf an la) (w : World) : Calls Tryd.prog 10 #[.agg #[.int .u32 h, .int .u8 3, .bool true, .int .i64 b, .int .i64 r, .int .u8 wh, .int .u32 ah, .int .u32 av, .int .u32 am, .int .i64 aw, .int .i64 lf, .int .i64 an, .int .i64 la, .int .u32 vl]] w fun e w' => e = .returned (.string (mk (jn (wds h 3 true b r wh ah av am lf an la vl)))) ∧ Below w.heap.size w w' := by
  have hC := fun wx => rcheck_any h 3 true b r wh ah av am aw lf an la vl wx
  rw [(okB_iff h 3 b r wh ah av am aw lf an la).2 hk] at hC
  clear hk
  have HE : Hid ((((((((((((((mk (Lib.itoa h) ++ ⟨#[32, 102, 97, 117, 108, 116]⟩) ++ ⟨#[32, 104, 101, 108, 100]⟩) ++ ⟨#[32]⟩) ++ mk (Lib.itoa b)) ++ ⟨#[32]⟩) ++ mk (Lib.itoa r)) ++ ⟨#[32, 45]⟩) ++ ⟨#[32]⟩) ++ mk (Lib.itoa an)) ++ ⟨#[32]⟩) ++ mk (Lib.itoa la)) ++ ⟨#[32]⟩) ++ mk (Lib.itoa vl)) = mk (jn (wds h 3 true b r wh ah av am lf an la vl))) := by
    show (((((((((((((mk (Lib.itoa h) ++ mk [32, 102, 97, 117, 108, 116]) ++ mk [32, 104, 101, 108, 100]) ++ mk [32]) ++ mk (Lib.itoa b)) ++ mk [32]) ++ mk (Lib.itoa r)) ++ mk [32, 45]) ++ mk [32]) ++ mk (Lib.itoa an)) ++ mk [32]) ++ mk (Lib.itoa la)) ++ mk [32]) ++ mk (Lib.itoa vl)) = _
    simp only [ba_mk]
    refine congrArg mk ?_
    simp [wds, wtw, stw, hdw, jn_two, jn_one]
  have Dh := fun wx => rdig_any h (by have := hB.h; omega) (by have := hB.h; omega) wx
  have Zh := itoa_sz h (by have := hB.h; omega) (by have := hB.h; omega)
  have Lh := hB.h
  have Db := fun wx => rdig_any b (by have := hB.b; omega) (by have := hB.b; omega) wx
  have Zb := itoa_sz b (by have := hB.b; omega) (by have := hB.b; omega)
  have Dr := fun wx => rdig_any r (by have := hB.r; omega) (by have := hB.r; omega) wx
  have Zr := itoa_sz r (by have := hB.r; omega) (by have := hB.r; omega)
  have Dan := fun wx => rdig_any an (by have := hB.an; omega) (by have := hB.an; omega) wx
  have Zan := itoa_sz an (by have := hB.an; omega) (by have := hB.an; omega)
  have Dla := fun wx => rdig_any la (by have := hB.la; omega) (by have := hB.la; omega) wx
  have Zla := itoa_sz la (by have := hB.la; omega) (by have := hB.la; omega)
  have Dvl := fun wx => rdig_any vl (by have := hB.vl; omega) (by have := hB.vl; omega) wx
  have Zvl := itoa_sz vl (by have := hB.vl; omega) (by have := hB.vl; omega)
  have Lvl := hB.vl
  clear hB
  generalize mk (Lib.itoa h) = sh at *
  generalize mk (Lib.itoa b) = sb at *
  generalize mk (Lib.itoa r) = sr at *
  generalize mk (Lib.itoa an) = san at *
  generalize mk (Lib.itoa la) = sla at *
  generalize mk (Lib.itoa vl) = svl at *
  obtain ⟨c0, Z0, A0, H0⟩ := add_ok sh ⟨#[32, 102, 97, 117, 108, 116]⟩ 20 Zh (show (ByteArray.mk #[32, 102, 97, 117, 108, 116]).size ≤ 20 by decide) (by decide)
  obtain ⟨c1, Z1, A1, H1⟩ := add_ok c0 ⟨#[32, 104, 101, 108, 100]⟩ 40 Z0 (show (ByteArray.mk #[32, 104, 101, 108, 100]).size ≤ 20 by decide) (by decide)
  obtain ⟨c2, Z2, A2, H2⟩ := add_ok c1 ⟨#[32]⟩ 60 Z1 (show (ByteArray.mk #[32]).size ≤ 20 by decide) (by decide)
  obtain ⟨c3, Z3, A3, H3⟩ := add_ok c2 sb 80 Z2 Zb (by decide)
  obtain ⟨c4, Z4, A4, H4⟩ := add_ok c3 ⟨#[32]⟩ 100 Z3 (show (ByteArray.mk #[32]).size ≤ 20 by decide) (by decide)
  obtain ⟨c5, Z5, A5, H5⟩ := add_ok c4 sr 120 Z4 Zr (by decide)
  obtain ⟨c6, Z6, A6, H6⟩ := add_ok c5 ⟨#[32, 45]⟩ 140 Z5 (show (ByteArray.mk #[32, 45]).size ≤ 20 by decide) (by decide)
  obtain ⟨c7, Z7, A7, H7⟩ := add_ok c6 ⟨#[32]⟩ 160 Z6 (show (ByteArray.mk #[32]).size ≤ 20 by decide) (by decide)
  obtain ⟨c8, Z8, A8, H8⟩ := add_ok c7 san 180 Z7 Zan (by decide)
  obtain ⟨c9, Z9, A9, H9⟩ := add_ok c8 ⟨#[32]⟩ 200 Z8 (show (ByteArray.mk #[32]).size ≤ 20 by decide) (by decide)
  obtain ⟨c10, Z10, A10, H10⟩ := add_ok c9 sla 220 Z9 Zla (by decide)
  obtain ⟨c11, Z11, A11, H11⟩ := add_ok c10 ⟨#[32]⟩ 240 Z10 (show (ByteArray.mk #[32]).size ≤ 20 by decide) (by decide)
  obtain ⟨c12, Z12, A12, H12⟩ := add_ok c11 svl 260 Z11 Zvl (by decide)
  have HE2 : Hid (c12 = mk (jn (wds h 3 true b r wh ah av am lf an la vl))) := by
    show _ = _
    rw [H12.out, H11.out, H10.out, H9.out, H8.out, H7.out, H6.out, H5.out, H4.out, H3.out, H2.out, H1.out, H0.out]
    exact HE.out
  clear HE H0 H1 H2 H3 H4 H5 H6 H7 H8 H9 H10 H11 H12 Z0 Z1 Z2 Z3 Z4 Z5 Z6 Z7 Z8 Z9 Z10 Z11 Z12 Zh Zb Zr Zan Zla Zvl
  go_enter Tryd.func10, Tryd.ntmps10
  go_wp2_with (first
    | (go_at_call 8; refine (hC _).mono ?_; rintro e w1 ⟨rfl, hb⟩; obtain ⟨hc, hf⟩ := bcell hb; clear hC)
    | (go_at_call_of 26 (Value.int IntKind.i64 h); refine (Dh _).mono ?_; rintro e wx ⟨rfl, hx⟩; obtain rfl := hx.symm))
  have z1 : w.heap.size < w1.heap.size := by have := hb.size; rw [alloc_size] at this; omega
  go_quiet ((first
    | (go_at_call_of 26 (Value.int IntKind.i64 b); exact Calls.quiet_of_same (Db _))
    | (go_at_call_of 26 (Value.int IntKind.i64 r); exact Calls.quiet_of_same (Dr _))))
  obtain ⟨w2, hw2⟩ : ∃ w2, w2 = w1.drewN nq := ⟨_, rfl⟩
  rw [← hw2]
  have b2 : Below w1.heap.size w1 w2 := by rw [hw2]; exact below_drewN w1 nq
  clear hw2
  obtain ⟨hc2, hf2⟩ := bcell b2
  have z2 : w.heap.size < w2.heap.size := by have := b2.size; omega
  go_wp2
  go_quiet ((first
    | (go_at_call_of 26 (Value.int IntKind.i64 an); exact Calls.quiet_of_same (Dan _))
    | (go_at_call_of 26 (Value.int IntKind.i64 la); exact Calls.quiet_of_same (Dla _))
    | (go_at_call_of 26 (Value.int IntKind.i64 vl); exact Calls.quiet_of_same (Dvl _))))
  go_wp2
  go_ret
  refine ⟨ret_s HE2.out, ?_⟩
  have q1 : Below w.heap.size w w1 := ((Below.refl _ _).alloc (Nat.le_refl _) _).trans (hb.mono (by simp))
  have q2 : Below w.heap.size w w2 := q1.trans (b2.mono q1.size)
  exact q2.trans ((below_drewN w2 nq).mono q2.size)
set_option maxHeartbeats 8000000 in
theorem rtext_3false (h b r wh ah av am aw lf an la vl : Int) (hB : Bd h 3 b r wh ah av am aw lf an la vl) (hk : Ok h 3 b r wh ah av am aw lf an la) (w : World) : Calls Tryd.prog 10 #[.agg #[.int .u32 h, .int .u8 3, .bool false, .int .i64 b, .int .i64 r, .int .u8 wh, .int .u32 ah, .int .u32 av, .int .u32 am, .int .i64 aw, .int .i64 lf, .int .i64 an, .int .i64 la, .int .u32 vl]] w fun e w' => e = .returned (.string (mk (jn (wds h 3 false b r wh ah av am lf an la vl)))) ∧ Below w.heap.size w w' := by
  have hC := fun wx => rcheck_any h 3 false b r wh ah av am aw lf an la vl wx
  rw [(okB_iff h 3 b r wh ah av am aw lf an la).2 hk] at hC
  clear hk
  have HE : Hid ((((((((((((((mk (Lib.itoa h) ++ ⟨#[32, 102, 97, 117, 108, 116]⟩) ++ ⟨#[32, 45]⟩) ++ ⟨#[32]⟩) ++ mk (Lib.itoa b)) ++ ⟨#[32]⟩) ++ mk (Lib.itoa r)) ++ ⟨#[32, 45]⟩) ++ ⟨#[32]⟩) ++ mk (Lib.itoa an)) ++ ⟨#[32]⟩) ++ mk (Lib.itoa la)) ++ ⟨#[32]⟩) ++ mk (Lib.itoa vl)) = mk (jn (wds h 3 false b r wh ah av am lf an la vl))) := by
    show (((((((((((((mk (Lib.itoa h) ++ mk [32, 102, 97, 117, 108, 116]) ++ mk [32, 45]) ++ mk [32]) ++ mk (Lib.itoa b)) ++ mk [32]) ++ mk (Lib.itoa r)) ++ mk [32, 45]) ++ mk [32]) ++ mk (Lib.itoa an)) ++ mk [32]) ++ mk (Lib.itoa la)) ++ mk [32]) ++ mk (Lib.itoa vl)) = _
    simp only [ba_mk]
    refine congrArg mk ?_
    simp [wds, wtw, stw, hdw, jn_two, jn_one]
  have Dh := fun wx => rdig_any h (by have := hB.h; omega) (by have := hB.h; omega) wx
  have Zh := itoa_sz h (by have := hB.h; omega) (by have := hB.h; omega)
  have Lh := hB.h
  have Db := fun wx => rdig_any b (by have := hB.b; omega) (by have := hB.b; omega) wx
  have Zb := itoa_sz b (by have := hB.b; omega) (by have := hB.b; omega)
  have Dr := fun wx => rdig_any r (by have := hB.r; omega) (by have := hB.r; omega) wx
  have Zr := itoa_sz r (by have := hB.r; omega) (by have := hB.r; omega)
  have Dan := fun wx => rdig_any an (by have := hB.an; omega) (by have := hB.an; omega) wx
  have Zan := itoa_sz an (by have := hB.an; omega) (by have := hB.an; omega)
  have Dla := fun wx => rdig_any la (by have := hB.la; omega) (by have := hB.la; omega) wx
  have Zla := itoa_sz la (by have := hB.la; omega) (by have := hB.la; omega)
  have Dvl := fun wx => rdig_any vl (by have := hB.vl; omega) (by have := hB.vl; omega) wx
  have Zvl := itoa_sz vl (by have := hB.vl; omega) (by have := hB.vl; omega)
  have Lvl := hB.vl
  clear hB
  generalize mk (Lib.itoa h) = sh at *
  generalize mk (Lib.itoa b) = sb at *
  generalize mk (Lib.itoa r) = sr at *
  generalize mk (Lib.itoa an) = san at *
  generalize mk (Lib.itoa la) = sla at *
  generalize mk (Lib.itoa vl) = svl at *
  obtain ⟨c0, Z0, A0, H0⟩ := add_ok sh ⟨#[32, 102, 97, 117, 108, 116]⟩ 20 Zh (show (ByteArray.mk #[32, 102, 97, 117, 108, 116]).size ≤ 20 by decide) (by decide)
  obtain ⟨c1, Z1, A1, H1⟩ := add_ok c0 ⟨#[32, 45]⟩ 40 Z0 (show (ByteArray.mk #[32, 45]).size ≤ 20 by decide) (by decide)
  obtain ⟨c2, Z2, A2, H2⟩ := add_ok c1 ⟨#[32]⟩ 60 Z1 (show (ByteArray.mk #[32]).size ≤ 20 by decide) (by decide)
  obtain ⟨c3, Z3, A3, H3⟩ := add_ok c2 sb 80 Z2 Zb (by decide)
  obtain ⟨c4, Z4, A4, H4⟩ := add_ok c3 ⟨#[32]⟩ 100 Z3 (show (ByteArray.mk #[32]).size ≤ 20 by decide) (by decide)
  obtain ⟨c5, Z5, A5, H5⟩ := add_ok c4 sr 120 Z4 Zr (by decide)
  obtain ⟨c6, Z6, A6, H6⟩ := add_ok c5 ⟨#[32, 45]⟩ 140 Z5 (show (ByteArray.mk #[32, 45]).size ≤ 20 by decide) (by decide)
  obtain ⟨c7, Z7, A7, H7⟩ := add_ok c6 ⟨#[32]⟩ 160 Z6 (show (ByteArray.mk #[32]).size ≤ 20 by decide) (by decide)
  obtain ⟨c8, Z8, A8, H8⟩ := add_ok c7 san 180 Z7 Zan (by decide)
  obtain ⟨c9, Z9, A9, H9⟩ := add_ok c8 ⟨#[32]⟩ 200 Z8 (show (ByteArray.mk #[32]).size ≤ 20 by decide) (by decide)
  obtain ⟨c10, Z10, A10, H10⟩ := add_ok c9 sla 220 Z9 Zla (by decide)
  obtain ⟨c11, Z11, A11, H11⟩ := add_ok c10 ⟨#[32]⟩ 240 Z10 (show (ByteArray.mk #[32]).size ≤ 20 by decide) (by decide)
  obtain ⟨c12, Z12, A12, H12⟩ := add_ok c11 svl 260 Z11 Zvl (by decide)
  have HE2 : Hid (c12 = mk (jn (wds h 3 false b r wh ah av am lf an la vl))) := by
    show _ = _
    rw [H12.out, H11.out, H10.out, H9.out, H8.out, H7.out, H6.out, H5.out, H4.out, H3.out, H2.out, H1.out, H0.out]
    exact HE.out
  clear HE H0 H1 H2 H3 H4 H5 H6 H7 H8 H9 H10 H11 H12 Z0 Z1 Z2 Z3 Z4 Z5 Z6 Z7 Z8 Z9 Z10 Z11 Z12 Zh Zb Zr Zan Zla Zvl
  go_enter Tryd.func10, Tryd.ntmps10
  go_wp2_with (first
    | (go_at_call 8; refine (hC _).mono ?_; rintro e w1 ⟨rfl, hb⟩; obtain ⟨hc, hf⟩ := bcell hb; clear hC)
    | (go_at_call_of 26 (Value.int IntKind.i64 h); refine (Dh _).mono ?_; rintro e wx ⟨rfl, hx⟩; obtain rfl := hx.symm))
  have z1 : w.heap.size < w1.heap.size := by have := hb.size; rw [alloc_size] at this; omega
  go_quiet ((first
    | (go_at_call_of 26 (Value.int IntKind.i64 b); exact Calls.quiet_of_same (Db _))
    | (go_at_call_of 26 (Value.int IntKind.i64 r); exact Calls.quiet_of_same (Dr _))))
  obtain ⟨w2, hw2⟩ : ∃ w2, w2 = w1.drewN nq := ⟨_, rfl⟩
  rw [← hw2]
  have b2 : Below w1.heap.size w1 w2 := by rw [hw2]; exact below_drewN w1 nq
  clear hw2
  obtain ⟨hc2, hf2⟩ := bcell b2
  have z2 : w.heap.size < w2.heap.size := by have := b2.size; omega
  go_wp2
  go_quiet ((first
    | (go_at_call_of 26 (Value.int IntKind.i64 an); exact Calls.quiet_of_same (Dan _))
    | (go_at_call_of 26 (Value.int IntKind.i64 la); exact Calls.quiet_of_same (Dla _))
    | (go_at_call_of 26 (Value.int IntKind.i64 vl); exact Calls.quiet_of_same (Dvl _))))
  go_wp2
  go_ret
  refine ⟨ret_s HE2.out, ?_⟩
  have q1 : Below w.heap.size w w1 := ((Below.refl _ _).alloc (Nat.le_refl _) _).trans (hb.mono (by simp))
  have q2 : Below w.heap.size w w2 := q1.trans (b2.mono q1.size)
  exact q2.trans ((below_drewN w2 nq).mono q2.size)
theorem rtext_any (h s : Int) (d : Bool) (b r wh ah av am aw lf an la vl : Int) (hB : Bd h s b r wh ah av am aw lf an la vl) (w : World) : Calls Tryd.prog 10 #[.agg #[.int .u32 h, .int .u8 s, .bool d, .int .i64 b, .int .i64 r, .int .u8 wh, .int .u32 ah, .int .u32 av, .int .u32 am, .int .i64 aw, .int .i64 lf, .int .i64 an, .int .i64 la, .int .u32 vl]] w fun e w' => e = .returned (.string (mk (txt h s d b r wh ah av am aw lf an la vl))) ∧ Below w.heap.size w w' := by
  unfold txt
  by_cases hk : Ok h s b r wh ah av am aw lf an la
  · rw [if_pos hk]
    cases d <;> rcases ok_state hk with rfl | rfl | rfl
    · exact rtext_1false h b r wh ah av am aw lf an la vl hB hk w
    · exact rtext_2false h b r wh ah av am aw lf an la vl hB hk w
    · exact rtext_3false h b r wh ah av am aw lf an la vl hB hk w
    · exact rtext_1true h b r wh ah av am aw lf an la vl hB hk w
    · exact rtext_2true h b r wh ah av am aw lf an la vl hB hk w
    · exact rtext_3true h b r wh ah av am aw lf an la vl hB hk w
  · rw [if_neg hk]
    exact rtext_no h s d b r wh ah av am aw lf an la vl hk w
end Go.Proofs.YtnoadpgnefncjaaDoor
