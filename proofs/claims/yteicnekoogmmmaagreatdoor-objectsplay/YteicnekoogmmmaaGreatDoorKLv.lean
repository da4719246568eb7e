/- The document's own thing: who leaves it. -/
import Derived.Test.YteicnekoogmmmaaGreatDoorKRef
namespace Go.Proofs.YteicnekoogmmmaaGreatDoor
open Go Go.RowKit
set_option maxRecDepth 100000
set_option linter.unusedVariables false
theorem Owr.q {w w' : World} {q z : Nat} {v : Value} {zs : List Int} {cs : Array Value} (h : Owr w z v zs) (hq : Blk w q cs 67) (hb : Buts [q] w w') : Owr w' z v zs := by
  rcases h with h | ⟨h1, h2⟩
  · exact Or.inl h
  · exact Or.inr ⟨h1, h2.buts' hb (by simpa using Blk.ne (t := 23) h2 hq (by decide))⟩
theorem Lst.high {s : Nat} {w w' : World} {u : Value} {xs : List Int} {q z : Nat} (h : Lst w s u xs) (hq : q < s) (hz : z < s) (hb : Buts [q, z] w w') : Lst w' s u xs :=
  h.buts hb fun g hg => by
    have := (World.ownsRow.lt h g hg).1
    simp only [List.mem_cons, List.not_mem_nil, or_false]
    omega
theorem KR.set {s : Nat} {w w' : World} {q z : Nat} {u v : Value} {T : Sx} (h : KR s w q z u v T) {n' : Nat} {o' : Int} {zs' : List Int} (h1 : Blk w' q (kc T.k T.a T.b n' o' u v) 67) (h2 : Owr w' z v zs') (hb : Buts [q, z] w w') (hl : zs'.length = T.zs.length := by rfl) : KR s w' q z u v ⟨T.k, T.a, T.b, n', o', T.xs, zs'⟩ :=
  ⟨h1, h.row.high h.qs h.zs hb, h2, h.qs, h.zs, h.emp, fun e => h.emz (List.eq_nil_of_length_eq_zero (by rw [← hl]; simpa using e))⟩
theorem b1 {w w' : World} {q z : Nat} (h : Buts [q] w w') : Buts [q, z] w w' := h.mono (by simp)
theorem b2 {w w' : World} {q z : Nat} (h : Buts [z] w w') : Buts [q, z] w w' := h.mono (by simp)
theorem KR.c {s : Nat} {w : World} {q z : Nat} {u v : Value} {T : Sx} (h : KR s w q z u v T) : w.cell? ⟨q, 0, none⟩ = some (.int .u8 T.k) ∧ w.cell? ⟨q, 1, none⟩ = some (.int .u32 T.a) ∧ w.cell? ⟨q, 2, none⟩ = some (.int .u32 T.b) ∧ w.cell? ⟨q, 3, none⟩ = some (.int .u32 (T.n : Nat)) ∧ w.cell? ⟨q, 4, none⟩ = some (.int .u32 T.o) ∧ w.cell? ⟨q, 5, none⟩ = some u ∧ w.cell? ⟨q, 6, none⟩ = some v := by
  refine ⟨?_, ?_, ?_, ?_, ?_, ?_, ?_⟩ <;> (rw [h.head.cell]; rfl)
theorem kc_o {w : World} {q : Nat} {k a b o : Int} {n : Nat} {u v : Value} (h : Blk w q (kc k a b n o u v) 67) (o' : Int) : Blk (w.setCell ⟨q, 4, none⟩ (.int .u32 o')) q (kc k a b n o' u v) 67 := h.set 4 _
theorem kc_n {w : World} {q : Nat} {k a b o : Int} {n : Nat} {u v : Value} (h : Blk w q (kc k a b n o u v) 67) (n' : Nat) : Blk (w.setCell ⟨q, 3, none⟩ (.int .u32 (n' : Nat))) q (kc k a b n' o u v) 67 := h.set 3 _
theorem kc_u {w : World} {q : Nat} {k a b o : Int} {n : Nat} {u v : Value} (h : Blk w q (kc k a b n o u v) 67) (u' : Value) : Blk (w.setCell ⟨q, 5, none⟩ u') q (kc k a b n o u' v) 67 := h.set 5 _
theorem cnt_take {who : Int} {zs : List Int} {i : Nat} (h : i < zs.length) : Pl.cnt who (zs.take (i + 1)) = Pl.cnt who (zs.take i) + (if zs.getD i 0 = who then 1 else 0) := by
  unfold Pl.cnt
  rw [List.take_add_one, List.countP_append]
  congr 1
  simp [h]
/-- has somebody something of the first ones -/
def hs (b0 : Bool) (who : Int) (zs : List Int) (i : Nat) : Bool := b0 || decide (0 < Pl.cnt who (zs.take i))
theorem hs_zero (b0 : Bool) (who : Int) (zs : List Int) : hs b0 who zs 0 = b0 := by simp [hs, Pl.cnt]
theorem hs_hit {b0 : Bool} {who : Int} {zs : List Int} {i : Nat} (h : i < zs.length) (e : zs.getD i 0 = who) : hs b0 who zs (i + 1) = true := by
  unfold hs; rw [cnt_take h, if_pos e]; simp
theorem hs_miss {b0 : Bool} {who : Int} {zs : List Int} {i : Nat} (h : i < zs.length) (e : zs.getD i 0 ≠ who) : hs b0 who zs (i + 1) = hs b0 who zs i := by
  unfold hs; rw [cnt_take h, if_neg e]; simp
theorem hs_all {b0 : Bool} {who : Int} {zs : List Int} : hs b0 who zs zs.length = (b0 || decide (0 < Pl.cnt who zs)) := by simp [hs]
theorem lB_yes {T : Sx} {who : Int} (h : who ≠ 0) : lB T who = (decide (T.o = who) || decide (0 < Pl.cnt who T.zs)) := by simp [lB, h]
theorem lT_yes {T : Sx} {who : Int} (h : who ≠ 0) : lT T who = ⟨T.k, T.a, T.b, T.n, if T.o = who then 0 else T.o, T.xs, Pl.clr who T.zs⟩ := by simp [lT, h]
set_option maxHeartbeats 8000000 in
theorem kleave_zero {s : Nat} {w : World} {q z : Nat} {u v : Value} {T : Sx} (h : KR s w q z u v T) (hm : T.zs.length ≤ 64) :
    Calls Tryz.prog 9 #[.pointer (some ⟨q, 0, none⟩), .int .u32 0] w fun e w' => e = .returned (.bool false) ∧ w = w' := by
  obtain ⟨_, _, _, _, c4, _, c6⟩ := h.c
  have hlt := h.head.lt
  have hv : ∃ sp, v = .slice sp T.zs.length T.zs.length := by
    rcases h.own with ⟨h1, h2⟩ | ⟨h1, _⟩
    · exact ⟨none, by rw [h1, h2]; rfl⟩
    · exact ⟨_, h1⟩
  obtain ⟨sp, rfl⟩ := hv
  clear h
  generalize T.zs.length = m at *
  go_enter Tryz.func9, Tryz.ntmps9
  go_wp2
  go_loopg [5, 6] m (fun g s5 s6 wx => ∃ k : Nat, k + g = m ∧ s6 = .int .i64 k ∧ s5 = .bool false ∧ w = wx)
  case atStart => exact ⟨0, by omega, rfl, rfl, rfl⟩
  case round =>
    obtain ⟨k, hkg, rfl, rfl, rfl⟩ := hrel
    cases gk with
    | succ g =>
      have hlt2 : (k : Int) < m := by omega
      go_wp2
      go_roundg g
      case measure => omega
      case rel => exact ⟨k + 1, by omega, by go_num, rfl, rfl⟩
    | zero =>
      obtain rfl : k = m := by omega
      have hlt2 : ¬ ((k : Int) < k) := by omega
      go_wp2
      go_ret
      exact ⟨rfl, rfl⟩
set_option maxHeartbeats 8000000 in
theorem kleave_some {s : Nat} {w : World} {q z : Nat} {u v : Value} {T : Sx} (h : KR s w q z u v T) (hm : T.zs.length ≤ 64) (who : Int) (hw : who ≠ 0) :
    Calls Tryz.prog 9 #[.pointer (some ⟨q, 0, none⟩), .int .u32 who] w fun e w' => e = .returned (.bool (decide (T.o = who) || decide (0 < Pl.cnt who T.zs))) ∧ Blk w' q (kc T.k T.a T.b T.n (if T.o = who then 0 else T.o) u v) 67 ∧ Owr w' z v (Pl.clr who T.zs) ∧ Buts [q, z] w w' := by
  have HH : Hid (Blk w q (kc T.k T.a T.b T.n T.o u v) 67) := h.head
  obtain ⟨_, _, _, _, c4, _, c6⟩ := h.c
  have hlt := h.head.lt
  have f4 := h.head.free 4
  have hw1 : (who != 0) = true := by simpa using hw
  rcases h.own with ⟨rfl, hz⟩ | ⟨rfl, hR⟩
  · clear h
    rw [hz]
    by_cases ho : T.o = who
    · rw [if_pos ho, ho]
      rw [ho] at c4
      clear ho
      go_enter Tryz.func9, Tryz.ntmps9
      go_wp2
      refine wp_loop_rounds 1 ?_
      rw [rounds_succ]
      go_wp2
      go_ret
      exact ⟨by simp, kc_o HH.out 0, Or.inl ⟨rfl, rfl⟩, b1 (Buts.cell _ _ _ _)⟩
    · rw [if_neg ho]
      have ho1 : (T.o == who) = false := by simpa using ho
      have HO : Hid (¬ T.o = who) := ho
      clear ho
      go_enter Tryz.func9, Tryz.ntmps9
      go_wp2
      refine wp_loop_rounds 1 ?_
      rw [rounds_succ]
      go_wp2
      go_ret
      exact ⟨by simp [HO.out, Pl.cnt], HH.out, Or.inl ⟨rfl, rfl⟩, Buts.refl _ _⟩
  · have RR : Hid (Row w z (Pl.mid who T.zs 0)) := by show Row _ _ _; rw [Pl.mid_zero]; exact hR
    obtain ⟨zs, hzs⟩ : ∃ zs, T.zs = zs := ⟨_, rfl⟩
    rw [hzs] at RR hm c6 HH ⊢
    obtain ⟨m, hml⟩ : ∃ m, zs.length = m := ⟨_, rfl⟩
    have HL : Hid (zs.length = m) := hml
    rw [hml] at hm c6 HH ⊢
    have QZ : Hid (q ≠ z) := h.head.ne (t' := 23) hR (by decide)
    clear h hR hzs hml hw
    by_cases ho : T.o = who
    · rw [if_pos ho]
      have HO : Hid (T.o = who) := ho
      rw [ho] at c4
      clear ho
      have R1 : Hid (Row (w.setCell ⟨q, 4, none⟩ (.int .u32 0)) z (Pl.mid who zs 0)) := RR.out.buts' (Buts.cell w q 4 (.int .u32 0)) (by simpa using QZ.out.symm)
      have H1 : Hid (Blk (w.setCell ⟨q, 4, none⟩ (.int .u32 0)) q (kc T.k T.a T.b T.n 0 u (.slice (some ⟨z, 0, none⟩) m m)) 67) := kc_o HH.out 0
      have B1 : Hid (Buts [q, z] w (w.setCell ⟨q, 4, none⟩ (.int .u32 0))) := b1 (Buts.cell _ _ _ _)
      go_enter Tryz.func9, Tryz.ntmps9
      go_wp2
      go_loopg [5, 6] m (fun g s5 s6 wx => ∃ k : Nat, k + g = m ∧ s6 = .int .i64 k ∧ s5 = .bool (hs true who zs k) ∧ Hid (Blk wx q (kc T.k T.a T.b T.n 0 u (.slice (some ⟨z, 0, none⟩) m m)) 67) ∧ Hid (Row wx z (Pl.mid who zs k)) ∧ Hid (Buts [q, z] w wx))
      case atStart => exact ⟨0, by omega, rfl, by rw [hs_zero], H1, R1, B1⟩
      case round =>
        clear H1 R1 B1 c4 c6 HH RR f4 hlt
        obtain ⟨k, hkg, rfl, rfl, H2, R2, B2⟩ := hrel
        have d6 : wr.cell? ⟨q, 6, none⟩ = some (.slice (some ⟨z, 0, none⟩) m m) := by rw [H2.out.cell]; rfl
        have hlt := H2.out.lt
        cases gk with
        | succ g =>
          have hlt2 : (k : Int) < m := by omega
          have HK : Hid (k < zs.length) := by show _ < _; rw [HL.out]; omega
          have kk := R2.out.cell k (by rw [Pl.mid_len, HL.out]; omega)
          rw [Pl.mid_at _ _ _ HK.out] at kk
          have kl := R2.out.lt
          have kf := R2.out.free k
          by_cases hy : zs.getD k 0 = who
          · have HM : Hid ((Pl.mid who zs k).set k 0 = Pl.mid who zs (k + 1)) := Pl.mid_hit _ _ _ HK.out hy
            have HT : Hid (hs true who zs (k + 1) = true) := hs_hit HK.out hy
            rw [hy] at kk
            clear hy
            go_wp2
            go_roundg g
            case measure => omega
            case rel => exact ⟨k + 1, by omega, by go_num, by rw [HT.out], H2.out.buts (Buts.cell _ z k (.int .u32 0)) (by simpa using QZ.out), by rw [← HM.out]; exact R2.out.set k 0, B2.out.trans (b2 (Buts.cell _ z k (.int .u32 0)))⟩
          · have HM : Hid (Pl.mid who zs (k + 1) = Pl.mid who zs k) := Pl.mid_miss _ _ _ HK.out hy
            have HT : Hid (hs true who zs (k + 1) = hs true who zs k) := hs_miss HK.out hy
            have hyw : (zs.getD k 0 == who) = false := by simpa using hy
            clear hy
            generalize zs.getD k 0 = y at *
            go_wp2
            go_roundg g
            case measure => omega
            case rel => exact ⟨k + 1, by omega, by go_num, by rw [HT.out], H2, by rw [HM.out]; exact R2, B2⟩
        | zero =>
          obtain rfl : k = m := by omega
          have hlt2 : ¬ ((k : Int) < k) := by omega
          rw [Pl.mid_all _ _ _ HL.out] at R2
          have HT : Hid (hs true who zs k = (true || decide (0 < Pl.cnt who zs))) := by show _ = _; rw [← HL.out]; exact hs_all
          generalize hs true who zs k = y at *
          go_wp2
          go_ret
          exact ⟨by rw [HT.out]; simp [HO.out], H2.out, Or.inr ⟨by rw [Pl.clr_len, HL.out], R2.out⟩, B2.out⟩
    · rw [if_neg ho]
      have HO : Hid (¬ T.o = who) := ho
      have ho1 : (T.o == who) = false := by simpa using ho
      clear ho
      go_enter Tryz.func9, Tryz.ntmps9
      go_wp2
      go_loopg [5, 6] m (fun g s5 s6 wx => ∃ k : Nat, k + g = m ∧ s6 = .int .i64 k ∧ s5 = .bool (hs false who zs k) ∧ Hid (Blk wx q (kc T.k T.a T.b T.n T.o u (.slice (some ⟨z, 0, none⟩) m m)) 67) ∧ Hid (Row wx z (Pl.mid who zs k)) ∧ Hid (Buts [q, z] w wx))
      case atStart => exact ⟨0, by omega, rfl, by rw [hs_zero], HH, RR, Buts.refl _ _⟩
      case round =>
        clear c4 c6 HH RR f4 hlt
        obtain ⟨k, hkg, rfl, rfl, H2, R2, B2⟩ := hrel
        have d6 : wr.cell? ⟨q, 6, none⟩ = some (.slice (some ⟨z, 0, none⟩) m m) := by rw [H2.out.cell]; rfl
        have hlt := H2.out.lt
        cases gk with
        | succ g =>
          have hlt2 : (k : Int) < m := by omega
          have HK : Hid (k < zs.length) := by show _ < _; rw [HL.out]; omega
          have kk := R2.out.cell k (by rw [Pl.mid_len, HL.out]; omega)
          rw [Pl.mid_at _ _ _ HK.out] at kk
          have kl := R2.out.lt
          have kf := R2.out.free k
          by_cases hy : zs.getD k 0 = who
          · have HM : Hid ((Pl.mid who zs k).set k 0 = Pl.mid who zs (k + 1)) := Pl.mid_hit _ _ _ HK.out hy
            have HT : Hid (hs false who zs (k + 1) = true) := hs_hit HK.out hy
            rw [hy] at kk
            clear hy
            go_wp2
            go_roundg g
            case measure => omega
            case rel => exact ⟨k + 1, by omega, by go_num, by rw [HT.out], H2.out.buts (Buts.cell _ z k (.int .u32 0)) (by simpa using QZ.out), by rw [← HM.out]; exact R2.out.set k 0, B2.out.trans (b2 (Buts.cell _ z k (.int .u32 0)))⟩
          · have HM : Hid (Pl.mid who zs (k + 1) = Pl.mid who zs k) := Pl.mid_miss _ _ _ HK.out hy
            have HT : Hid (hs false who zs (k + 1) = hs false who zs k) := hs_miss HK.out hy
            have hyw : (zs.getD k 0 == who) = false := by simpa using hy
            clear hy
            generalize zs.getD k 0 = y at *
            go_wp2
            go_roundg g
            case measure => omega
            case rel => exact ⟨k + 1, by omega, by go_num, by rw [HT.out], H2, by rw [HM.out]; exact R2, B2⟩
        | zero =>
          obtain rfl : k = m := by omega
          have hlt2 : ¬ ((k : Int) < k) := by omega
          rw [Pl.mid_all _ _ _ HL.out] at R2
          have HT : Hid (hs false who zs k = (false || decide (0 < Pl.cnt who zs))) := by show _ = _; rw [← HL.out]; exact hs_all
          generalize hs false who zs k = y at *
          go_wp2
          go_ret
          exact ⟨by rw [HT.out]; simp [HO.out], H2.out, Or.inr ⟨by rw [Pl.clr_len, HL.out], R2.out⟩, B2.out⟩
theorem kleave_x {s : Nat} {w : World} {q z : Nat} {u v : Value} {T : Sx} (h : KR s w q z u v T) (hm : T.zs.length ≤ 64) (who : Int) :
    Calls Tryz.prog 9 #[.pointer (some ⟨q, 0, none⟩), .int .u32 who] w fun e w' => e = .returned (.bool (lB T who)) ∧ KR s w' q z u v (lT T who) ∧ Buts [q, z] w w' := by
  by_cases h0 : who = 0
  · subst h0
    refine (kleave_zero h hm).mono fun e w' ⟨he, hb⟩ => ?_
    subst hb
    exact ⟨by simpa [lB] using he, by simpa [lT] using h, Buts.refl _ _⟩
  · rw [lB_yes h0, lT_yes h0]
    exact (kleave_some h hm who h0).mono fun e w' ⟨he, h1, h2, h3⟩ => ⟨he, h.set h1 h2 h3 (Pl.clr_len _ _), h3⟩
end Go.Proofs.YteicnekoogmmmaaGreatDoor
