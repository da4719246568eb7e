/- A number of a field's text, and the bytes of a number. -/
import Derived.Test.YtcjghnnliepjjaaGreatDoorWritten
import Derived.Test.YtcjghnnliepjjaaGreatDoorShelfP
import Derived.Maps.AppendAt
import Derived.OwnWalk
import Derived.WideLaws
namespace Go.Proofs.YtcjghnnliepjjaaGreatDoor
open Go Go.RowKit
set_option maxRecDepth 100000
/-- the library's errors lie in memory -/
structure Errs (w : World) : Prop where
  syn : ∃ t p, w.cell? ⟨2, 0, none⟩ = some (.iface t p)
  rng : ∃ t p, w.cell? ⟨3, 0, none⟩ = some (.iface t p)
  lt : 3 < w.heap.size
theorem Errs.on {w w' : World} (h : Errs w) (hb : Below w.heap.size w w') : Errs w' where
  syn := by obtain ⟨t, p, e⟩ := h.syn; exact ⟨t, p, by rw [(bcell hb).1 _ _ (by have := h.lt; omega)]; exact e⟩
  rng := by obtain ⟨t, p, e⟩ := h.rng; exact ⟨t, p, by rw [(bcell hb).1 _ _ h.lt]; exact e⟩
  lt := by have := h.lt; have := hb.size; omega
/-- a number as it is written, none of its signs needless -/
def dec (l : List UInt8) : Option Int :=
  match Lib.atoiAll l with
  | .ok v => if Lib.itoa v = l then some v else none
  | _ => none
theorem atoi_any (s : ByteArray) (hs : s.size ≤ 281474976710656) (w : World) (he : Errs w) :
    Calls Tryz.prog 156 #[.string s] w fun e w' => Below w.heap.size w w' ∧ ∃ n x, e = .returned (.tuple #[.int .i64 n, x]) ∧ -9223372036854775808 ≤ n ∧ n ≤ 9223372036854775807 ∧
      ((x = .nilIface ∧ Lib.atoiAll s.data.toList = .ok n) ∨ ((∃ t p, x = .iface t p) ∧ dec s.data.toList = none)) := by
  cases hx : Lib.atoiAll s.data.toList
  · rename_i v
    refine (Tryz.strconv_Atoi_ok s (by omega) v hx w).mono ?_
    rintro e w' ⟨rfl, hw⟩
    have hb := Lib.atoiAll_bounds hx
    refine ⟨?_, v, _, rfl, hb.1, hb.2, Or.inl ⟨rfl, rfl⟩⟩
    rcases hw with rfl | ⟨t, rfl⟩
    · exact Below.refl _ _
    · exact Lib.bytesWorld_below _ _ _
  · obtain ⟨t, p, hc⟩ := he.syn
    refine (Any.strconv_Atoi_syntax Tryz.laysC172 s hs hx _ w hc (Or.inr ⟨t, p, rfl⟩)).mono ?_
    rintro e w' ⟨N, rfl, _, _, hb⟩
    exact ⟨hb, 0, _, rfl, by decide, by decide, Or.inr ⟨⟨_, _, rfl⟩, by unfold dec; rw [hx]⟩⟩
  · obtain ⟨t, p, hc⟩ := he.rng
    refine (Any.strconv_Atoi_range Tryz.laysC172 s hs hx _ w hc (Or.inr ⟨t, p, rfl⟩)).mono ?_
    rintro e w' ⟨N, rfl, _, _, hb⟩
    have hb2 := Lib.atoiSat_bounds s.data.toList
    exact ⟨hb, _, _, rfl, hb2.1, hb2.2, Or.inr ⟨⟨_, _, rfl⟩, by unfold dec; rw [hx]⟩⟩
theorem u80 : Tryz.prog.underlying 175 = some (.interface (Tryz.prog.methodsAt 175)) := by kernel_rfl
theorem guard_nil (x y : Operand) (h : (y matches .const _) = true) (W : World) : (eqGuard .eql 175 x y .nilIface .nilIface).run Tryz.prog W = .ok () W := by
  cases y <;> simp_all [eqGuard]
theorem guard_held (x y : Operand) (t : TypeId) (p : Value) (W : World) : (eqGuard .eql 175 x y (.iface t p) .nilIface).run Tryz.prog W = .ok () W := by
  simp [eqGuard]
set_option maxHeartbeats 4000000 in
theorem decimal_any (s : ByteArray) (hs : s.size ≤ 281474976710656) (w : World) (he : Errs w) (hp : Pow w) :
    Calls Tryz.prog 142 #[.string s] w fun e w' => Below w.heap.size w w' ∧ ∃ n, e = .returned (.tuple #[.int .i64 n, .bool (dec s.data.toList).isSome]) ∧ (∀ v, dec s.data.toList = some v → n = v) := by
  have HA := atoi_any s hs w he
  have HP : Hid (Pow w) := hp
  clear hp he
  have g1 := fun W => guard_nil (.tmp 12) (.const .nilIface) rfl W
  have g2 := guard_held (.tmp 12) (.const .nilIface)
  have e1 := fun W => run_eql_nil_nil (P := Tryz.prog) W 175 u80
  have e2 := fun W t p => run_eql_held_nil (P := Tryz.prog) W 175 t p u80
  go_enter Tryz.func142, Tryz.ntmps142
  go_wp2_with (go_at_call 156; refine HA.mono ?_; rintro e w1 ⟨hb1, n, x, rfl, hn0, hn1, hx⟩)
  rcases hx with ⟨rfl, hx⟩ | ⟨⟨t, p, rfl⟩, hx⟩
  · have HX : Hid (Lib.atoiAll s.data.toList = .ok n) := hx
    clear hx
    simp only [g1, e1, Result.andThen]
    go_wp2_with (go_at_call 125; refine (itoa_any _ hn0 hn1 _ (HP.out.on hb1)).mono ?_; rintro e w2 ⟨rfl, hb2⟩)
    go_ret2
    refine ⟨hb1.trans (hb2.mono hb1.size), n, ?_, ?_⟩
    · have hd : (dec s.data.toList).isSome = (Lib.itoa n == s.toList) := by
        unfold dec; rw [HX.out, Lib.toList_data]
        by_cases h : Lib.itoa n = s.data.toList
        · simp [h]
        · simp [h]
      rw [hd]
      rfl
    · intro v hv
      unfold dec at hv
      rw [HX.out] at hv
      simp only at hv
      split at hv
      · exact Option.some.inj hv
      · cases hv
  · simp only [g2, e2, Result.andThen]
    go_wp2
    go_ret2
    exact ⟨hb1, n, by rw [hx]; rfl, fun v hv => by rw [hx] at hv; cases hv⟩
theorem info5 : (Tryz.prog.info? 5).map (fun i => (i.zero, i.size, i.bytes)) = some (some (.int .u8 0), 1, 1) := by kernel_rfl
def ints (l : List Int) : List Value := l.map (.int .u8)
set_option maxHeartbeats 4000000 in
theorem parted1 (base g cnt : Nat) (xs : List Int) (n : Int) (hc : cnt + 1 ≤ 3) (w : World) (hown : w.ownsRow base 5 1 (.slice (some ⟨g, 0, none⟩) cnt 3) cnt (ints xs)) :
    Calls Tryz.prog 143 #[.slice (some ⟨g, 0, none⟩) cnt 3, .int .i64 n, .int .i64 1] w fun e w' => e = .returned (.slice (some ⟨g, 0, none⟩) (cnt + 1) 3) ∧ w'.ownsRow base 5 1 (.slice (some ⟨g, 0, none⟩) (cnt + 1) 3) (cnt + 1) (ints (xs ++ [n % 256])) ∧ w.grownBy w' (some g) := by
  obtain ⟨i0, hi, hz0, hz1, hz2⟩ := info_parts info5
  go_enter Tryz.func143, Tryz.ntmps143
  go_wp2
  refine wp_loop_rounds 2 ?_
  rw [rounds_succ]
  go_wp2_with (at_builtin; refine wpList_append_fits _ rfl _ _ 22 rfl base 5 i0 1 Tryz.underlying22 hi hz1 g cnt 3 _ rfl (hown.alloc _) ⟨w.heap.size, 0, none⟩ 1 1 [.int .u8 (n % 256)] rfl rfl (cell_one_new _ _ _) (fun x hx => by simp at hx; subst hx; rfl) hc ?_; intro w1 hown1 hgrow1)
  rw [rounds_succ]
  go_wp2
  go_ret
  exact ⟨rfl, by simpa [ints] using hown1, (World.grownBy_alloc _ _ _).trans hgrow1⟩
set_option maxHeartbeats 4000000 in
theorem parted2 (base g cnt : Nat) (xs : List Int) (n : Int) (h0 : 0 ≤ n) (h1 : n ≤ 65535) (hc : cnt + 2 ≤ 3) (w : World) (hown : w.ownsRow base 5 1 (.slice (some ⟨g, 0, none⟩) cnt 3) cnt (ints xs)) :
    Calls Tryz.prog 143 #[.slice (some ⟨g, 0, none⟩) cnt 3, .int .i64 n, .int .i64 2] w fun e w' => e = .returned (.slice (some ⟨g, 0, none⟩) (cnt + 1 + 1) 3) ∧ w'.ownsRow base 5 1 (.slice (some ⟨g, 0, none⟩) (cnt + 1 + 1) 3) (cnt + 1 + 1) (ints (xs ++ [n / 256] ++ [n % 256])) ∧ w.grownBy w' (some g) := by
  obtain ⟨i0, hi, hz0, hz1, hz2⟩ := info_parts info5
  go_enter Tryz.func143, Tryz.ntmps143
  go_wp2
  refine wp_loop_rounds 3 ?_
  rw [rounds_succ]
  go_wp2_with (at_builtin; refine wpList_append_fits _ rfl _ _ 22 rfl base 5 i0 1 Tryz.underlying22 hi hz1 g cnt 3 _ rfl (hown.alloc _) ⟨w.heap.size, 0, none⟩ 1 1 [.int .u8 (n / 256)] rfl rfl (cell_one_new _ _ _) (fun x hx => by simp at hx; subst hx; rfl) (by omega) ?_; intro w1 hown1 hgrow1)
  rw [rounds_succ]
  go_wp2_with (at_builtin; refine wpList_append_fits _ rfl _ _ 22 rfl base 5 i0 1 Tryz.underlying22 hi hz1 g (cnt + 1) 3 _ rfl (hown1.alloc _) ⟨w1.heap.size, 0, none⟩ 1 1 [.int .u8 (n % 256)] rfl rfl (cell_one_new _ _ _) (fun x hx => by simp at hx; subst hx; rfl) (by omega) ?_; intro w2 hown2 hgrow2)
  rw [rounds_succ]
  go_wp2
  go_ret
  exact ⟨rfl, by simpa [ints] using hown2, ((World.grownBy_alloc _ _ _).trans hgrow1).trans ((World.grownBy_alloc _ _ _).trans hgrow2)⟩
/-- the bytes of a field of this kind -/
def kBytes (k : Nat) (n : Int) : List Int := if k = 4 then [n / 256, n % 256] else [n % 256]
theorem kBytes_length (k : Nat) (n : Int) : (kBytes k n).length = kSz k := by unfold kBytes kSz; split <;> rfl
theorem parted_k (k base g cnt : Nat) (xs : List Int) (n : Int) (h0 : kLeast k ≤ n) (h1 : n ≤ kMost k) (hc : cnt + kSz k ≤ 3) (w : World) (hown : w.ownsRow base 5 1 (.slice (some ⟨g, 0, none⟩) cnt 3) cnt (ints xs)) :
    Calls Tryz.prog 143 #[.slice (some ⟨g, 0, none⟩) cnt 3, .int .i64 n, .int .i64 (kSize k)] w fun e w' => e = .returned (.slice (some ⟨g, 0, none⟩) (cnt + kSz k) 3) ∧ w'.ownsRow base 5 1 (.slice (some ⟨g, 0, none⟩) (cnt + kSz k) 3) (cnt + kSz k) (ints (xs ++ kBytes k n)) ∧ w.grownBy w' (some g) := by
  by_cases h4 : k = 4
  · subst h4
    refine (parted2 base g cnt xs n h0 h1 hc w hown).mono ?_
    rintro e w' ⟨rfl, ho, rest⟩
    exact ⟨rfl, by simpa [kBytes, kSz] using ho, rest⟩
  · have hs : kSize k = 1 := by unfold kSize; rw [if_neg h4]
    have hz : kSz k = 1 := by unfold kSz; rw [if_neg h4]
    have hk : kBytes k n = [n % 256] := by unfold kBytes; rw [if_neg h4]
    rw [hs, hz, hk]
    rw [hz] at hc
    exact parted1 base g cnt xs n hc w hown
/-- the number of a field's text -/
def rd (k : Nat) (t : List UInt8) : Option Int :=
  if Lib.hasPrefix t (kMark k).data.toList = true then
    match dec (Lib.trimPrefix t (kMark k).data.toList) with
    | some v => if kLeast k ≤ v ∧ v ≤ kMost k then some v else none
    | none => none
  else none
theorem trimPrefix_length (t p : List UInt8) : (Lib.trimPrefix t p).length ≤ t.length := by
  unfold Lib.trimPrefix; split <;> simp
set_option maxHeartbeats 4000000 in
theorem readf (k m base gp cnt : Nat) (xs : List Int) (t : ByteArray) (ht : t.size ≤ 281474976710656) (hc : cnt + kSz k ≤ 3) (w : World) (he : Errs w) (hp : Pow w) (hh : Hcells w m (kMark k) (kSize k) (kLeast k) (kMost k))
    (hown : w.ownsRow base 5 1 (.slice (some ⟨gp, 0, none⟩) cnt 3) cnt (ints xs)) :
    Calls Tryz.prog 140 #[.slice (some ⟨gp, 0, none⟩) cnt 3, .string t, .pointer (some ⟨m, 0, none⟩), .pointer (some ⟨m + 1 + 1 + 1 + 1 + 1, 0, none⟩), .pointer (some ⟨m + 1, 0, none⟩)] w
      fun e w' => ∃ v', e = .returned (.tuple #[v', .bool (rd k t.data.toList).isSome]) ∧ w.grownBy w' (some gp) ∧
        (∀ n, rd k t.data.toList = some n → v' = .slice (some ⟨gp, 0, none⟩) (cnt + kSz k) 3 ∧ w'.ownsRow base 5 1 (.slice (some ⟨gp, 0, none⟩) (cnt + kSz k) 3) (cnt + kSz k) (ints (xs ++ kBytes k n))) := by
  obtain ⟨c0, c1, c2, c3, c5, hlt⟩ := hh
  have HPT : Hid (∀ n W, kLeast k ≤ n → n ≤ kMost k → W.ownsRow base 5 1 (.slice (some ⟨gp, 0, none⟩) cnt 3) cnt (ints xs) →
      Calls Tryz.prog 143 #[.slice (some ⟨gp, 0, none⟩) cnt 3, .int .i64 n, .int .i64 (kSize k)] W fun e w' => e = .returned (.slice (some ⟨gp, 0, none⟩) (cnt + kSz k) 3) ∧ w'.ownsRow base 5 1 (.slice (some ⟨gp, 0, none⟩) (cnt + kSz k) 3) (cnt + kSz k) (ints (xs ++ kBytes k n)) ∧ W.grownBy w' (some gp)) :=
    fun n W h0 h1 ho => parted_k k base gp cnt xs n h0 h1 hc W ho
  generalize hmk : kMark k = mark at c0
  generalize hle : kLeast k = least at c2 HPT
  generalize hmo : kMost k = most at c3 HPT
  generalize hsz : kSize k = size at c1 HPT
  have hgpl := own_lt hown (gp := gp) rfl
  have hD : (⟨(Lib.trimPrefix t.data.toList mark.data.toList).toArray⟩ : ByteArray).size ≤ 281474976710656 := by
    have h1 := trimPrefix_length t.data.toList mark.data.toList
    have h2 : t.data.toList.length = t.size := Array.length_toList
    show ((Lib.trimPrefix t.data.toList mark.data.toList).toArray).size ≤ _
    rw [List.size_toArray]
    omega
  have hDL : (⟨(Lib.trimPrefix t.data.toList mark.data.toList).toArray⟩ : ByteArray).data.toList = Lib.trimPrefix t.data.toList mark.data.toList := rfl
  generalize hDD : (⟨(Lib.trimPrefix t.data.toList mark.data.toList).toArray⟩ : ByteArray) = D at hD hDL
  have cCut := Tryz.strings_CutPrefix t mark
  rw [hDD] at cCut
  have cDec := decimal_any D hD w he hp
  rw [hDL] at cDec
  have HE : Hid (Errs w ∧ Pow w) := ⟨he, hp⟩
  have HO : Hid (w.ownsRow base 5 1 (.slice (some ⟨gp, 0, none⟩) cnt 3) cnt (ints xs)) := hown
  clear he hp hown hDD hDL hD
  cases hpre : Lib.hasPrefix t.data.toList mark.data.toList
  · have HR : Hid (rd k t.data.toList = none) := by show _ = _; unfold rd; rw [hmk, if_neg (by rw [hpre]; decide)]
    rw [hpre] at cCut
    clear hpre
    go_enter Tryz.func140, Tryz.ntmps140
    go_wp2_with (first
      | (go_at_call 141; refine (cCut _).mono ?_; rintro e w1 ⟨rfl, rfl⟩)
      | (go_at_call 142; refine cDec.mono ?_; rintro e w2 ⟨hb2, n, rfl, hn⟩; clear hn))
    go_ret2
    exact ⟨_, by rw [HR.out]; rfl, ⟨hb2.os, hb2.tape, hb2.output, hb2.size, fun i hi _ => hb2.block i hi⟩, fun n h => by rw [HR.out] at h; cases h⟩
  · cases hdec : dec (Lib.trimPrefix t.data.toList mark.data.toList)
    · have HR : Hid (rd k t.data.toList = none) := by show _ = _; unfold rd; rw [hmk, if_pos hpre, hdec]
      rw [hpre] at cCut
      rw [hdec] at cDec
      clear hpre hdec
      go_enter Tryz.func140, Tryz.ntmps140
      go_wp2_with (first
        | (go_at_call 141; refine (cCut _).mono ?_; rintro e w1 ⟨rfl, rfl⟩)
        | (go_at_call 142; refine cDec.mono ?_; rintro e w2 ⟨hb2, n, rfl, hn⟩; clear hn))
      go_ret2
      exact ⟨_, by rw [HR.out]; rfl, ⟨hb2.os, hb2.tape, hb2.output, hb2.size, fun i hi _ => hb2.block i hi⟩, fun n h => by rw [HR.out] at h; cases h⟩
    · rename_i vv
      have hRD : rd k t.data.toList = if least ≤ vv ∧ vv ≤ most then some vv else none := by unfold rd; rw [hmk, if_pos hpre, hdec, hle, hmo]
      rw [hpre] at cCut
      rw [hdec] at cDec
      clear hpre hdec
      by_cases hin : least ≤ vv ∧ vv ≤ most
      · rw [if_pos hin] at hRD
        have HR : Hid (rd k t.data.toList = some vv) := hRD
        obtain ⟨hin1, hin2⟩ := hin
        clear hRD
        go_enter Tryz.func140, Tryz.ntmps140
        go_wp2_with (first
          | (go_at_call 141; refine (cCut _).mono ?_; rintro e w1 ⟨rfl, rfl⟩)
          | (go_at_call 142; refine cDec.mono ?_; rintro e w2 ⟨hb2, n, rfl, hn⟩; obtain rfl := hn _ rfl; have q0 := (bcell hb2).1; have l2 := hb2.size; have d1 : w2.cell? ⟨m + 1, 0, none⟩ = some (.int .i64 size) := (by rw [q0 _ _ (by omega)]; exact c1))
          | (go_at_call 137; refine (may_any _ _ _ least most _ (by rw [q0 _ _ (by omega)]; exact c2) (by rw [q0 _ _ (by omega)]; exact c3)).mono ?_; rintro e w3 ⟨rfl, rfl⟩)
          | (go_at_call 143; refine (HPT.out _ _ hin1 hin2 (own_kept HO.out (gp := gp) rfl (hb2.block _ hgpl))).mono ?_; rintro e w4 ⟨rfl, ho4, hg4⟩))
        go_ret2
        refine ⟨_, by rw [HR.out]; rfl, ?_, ?_⟩
        · exact ⟨hg4.os.trans hb2.os, hg4.tape.trans hb2.tape, hg4.output.trans hb2.output, Nat.le_trans hb2.size hg4.size, fun i hi hn => by rw [hg4.block i (by omega) hn, hb2.block i hi]⟩
        · intro n' hn'
          rw [HR.out] at hn'
          cases hn'
          exact ⟨rfl, ho4⟩
      · rw [if_neg hin] at hRD
        have HR : Hid (rd k t.data.toList = none) := hRD
        have hin' : (decide (least ≤ vv) && decide (vv ≤ most)) = false := by
          rw [Bool.and_eq_false_iff, decide_eq_false_iff_not, decide_eq_false_iff_not]
          omega
        clear hRD hin
        have cMay : ∀ W, Below w.heap.size w W → Calls Tryz.prog 137 #[.int .i64 vv, .pointer (some ⟨m + 1 + 1, 0, none⟩), .pointer (some ⟨m + 1 + 1 + 1, 0, none⟩)] W fun e w' => e = .returned (.bool false) ∧ w' = W := fun W hW => by
          have h := may_any (m + 1 + 1) (m + 1 + 1 + 1) vv least most W (by rw [(bcell hW).1 _ _ (by omega)]; exact c2) (by rw [(bcell hW).1 _ _ (by omega)]; exact c3)
          rwa [hin'] at h
        clear hin'
        go_enter Tryz.func140, Tryz.ntmps140
        go_wp2_with (first
          | (go_at_call 141; refine (cCut _).mono ?_; rintro e w1 ⟨rfl, rfl⟩)
          | (go_at_call 142; refine cDec.mono ?_; rintro e w2 ⟨hb2, n, rfl, hn⟩; obtain rfl := hn _ rfl; have q0 := (bcell hb2).1; have l2 := hb2.size; have d1 : w2.cell? ⟨m + 1, 0, none⟩ = some (.int .i64 size) := (by rw [q0 _ _ (by omega)]; exact c1))
          | (go_at_call 137; refine (cMay _ hb2).mono ?_; rintro e w3 ⟨rfl, rfl⟩))
        go_ret2
        exact ⟨_, by rw [HR.out]; rfl, ⟨hb2.os, hb2.tape, hb2.output, hb2.size, fun i hi _ => hb2.block i hi⟩, fun n h => by rw [HR.out] at h; cases h⟩
end Go.Proofs.YtcjghnnliepjjaaGreatDoor
