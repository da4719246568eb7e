/- The document's own thing: blocks that are given out and taken back; flags that are awaited. -/
import Derived.Test.YteicnekoogmmmaaGreatDoorKM1
namespace Go.Proofs.YteicnekoogmmmaaGreatDoor
open Go Go.RowKit
set_option maxRecDepth 100000
set_option linter.unusedVariables false
theorem KR.same {s : Nat} {w w' : World} {q z : Nat} {u v : Value} {T : Sx} (h : KR s w q z u v T) (hb : Below w.heap.size w w') : (∃ u', KR s w' q z u' v T) ∧ Buts [q, z] w w' := ⟨⟨u, h.below hb⟩, Buts.of hb⟩
theorem Owr.form {w : World} {z : Nat} {v : Value} {zs : List Int} (h : Owr w z v zs) : ∃ sp, v = .slice sp zs.length zs.length ∧ (0 < zs.length → sp = some ⟨z, 0, none⟩ ∧ Row w z zs) := by
  rcases h with ⟨h1, h2⟩ | ⟨h1, h2⟩
  · exact ⟨none, by rw [h1, h2]; rfl, fun h => by rw [h2] at h; simp at h⟩
  · exact ⟨_, h1, fun _ => ⟨rfl, h2⟩⟩
/-- another owner -/
theorem KR.owner {s : Nat} {w : World} {q z : Nat} {u : Value} {T : Sx} {m : Nat} (h : KR s w q z u (.slice (some ⟨z, 0, none⟩) m m) T) (hR : Row w z T.zs) (hm : T.zs.length = m) (i : Nat) (x : Int) : KR s (w.setCell ⟨z, i, none⟩ (.int .u32 x)) q z u (.slice (some ⟨z, 0, none⟩) m m) { T with zs := T.zs.set i x } ∧ Buts [q, z] w (w.setCell ⟨z, i, none⟩ (.int .u32 x)) := by
  have hb : Buts [z] w (w.setCell ⟨z, i, none⟩ (.int .u32 x)) := Buts.cell _ _ _ _
  have hq : q ≠ z := h.head.ne (t' := 23) hR (by decide)
  exact ⟨h.set (h.head.buts hb (by simpa using hq)) (Or.inr ⟨by rw [List.length_set, hm], hR.set i x⟩) (b2 hb) (List.length_set), b2 hb⟩
set_option maxHeartbeats 4000000 in
theorem kalloc {s : Nat} {w : World} {q z : Nat} {u v : Value} {T : Sx} (h : KR s w q z u v T) (hm : T.zs.length ≤ 64) (who ah av am aw : Int) :
    Calls Tryz.prog 22 #[.pointer (some ⟨q, 0, none⟩), .int .u32 who, .agg #[.int .u8 14, .int .u32 ah, .int .u32 av, .int .u32 am, .int .i64 aw]] w (KAns s w q z v (alV T.zs, alE T.zs, { T with zs := alL T.zs who })) := by
  obtain ⟨_, _, _, _, _, _, c6⟩ := h.c
  have hlt := h.head.lt
  obtain ⟨sp, rfl, hsp⟩ := h.own.form
  have HK : Hid (KR s w q z u (.slice sp T.zs.length T.zs.length) T) := h
  have HSP : Hid (0 < T.zs.length → sp = some ⟨z, 0, none⟩ ∧ Row w z T.zs) := hsp
  clear h hsp
  unfold KAns
  obtain ⟨m, hml⟩ : ∃ m, T.zs.length = m := ⟨_, rfl⟩
  have HL : Hid (T.zs.length = m) := hml
  rw [hml] at hm c6 HK HSP ⊢
  clear hml
  go_enter Tryz.func22, Tryz.ntmps22
  go_wp2
  go_loopg [11] m (fun g s11 wx => ∃ k : Nat, k + g = m ∧ s11 = .int .i64 k ∧ Hid (∀ j, j < k → T.zs.getD j 0 ≠ 0) ∧ w.alloc (.cells #[.int .u8 14, .int .u32 ah, .int .u32 av, .int .u32 am, .int .i64 aw] 39) = wx)
  case atStart => exact ⟨0, by omega, rfl, fun j hj => by omega, rfl⟩
  case round =>
    obtain ⟨k, hkg, rfl, HN, rfl⟩ := hrel
    cases gk with
    | zero =>
      obtain rfl : k = m := by omega
      have hlt2 : ¬ ((k : Int) < k) := by omega
      have hff : ¬ ff T.zs < T.zs.length := fun hf => HN.out (ff T.zs) (by rw [HL.out] at hf; exact hf) (ff_at hf)
      have HV : Hid (alV T.zs = 0 ∧ alE T.zs = 7 ∧ alL T.zs who = T.zs) := ⟨by simp [alV, hff], by simp [alE, hff], by simp [alL, hff]⟩
      clear hff
      go_wp2
      go_ret2
      rw [HV.out.1, HV.out.2.1, HV.out.2.2]
      exact ⟨rfl, HK.out.same (alloc_below _ _)⟩
    | succ g =>
      have hlt2 : (k : Int) < m := by omega
      obtain ⟨hs1, hR⟩ := HSP.out (by omega)
      subst hs1
      have kk := hR.cell k (by rw [HL.out]; omega)
      have kl := hR.lt
      have kf := hR.free k
      by_cases hy : T.zs.getD k 0 = 0
      · have hff : ff T.zs = k := by
          have h1 : ff T.zs < T.zs.length := by
            rcases Nat.lt_or_ge (ff T.zs) T.zs.length with h | h
            · exact h
            · exact absurd hy (ff_min (by rw [HL.out] at h; omega))
          rcases Nat.lt_trichotomy (ff T.zs) k with h | h | h
          · exact absurd (ff_at h1) (HN.out _ h)
          · exact h
          · exact absurd hy (ff_min h)
        have hkl : ff T.zs < T.zs.length := by rw [hff, HL.out]; omega
        have HV : Hid (alV T.zs = (k : Nat) ∧ alE T.zs = 0 ∧ alL T.zs who = T.zs.set k who) := ⟨by unfold alV; rw [if_pos hkl, hff], by simp [alE, hkl], by unfold alL; rw [if_pos hkl, hff]⟩
        rw [hy] at kk
        have hwr : IntKind.u32.wrap ((k : Nat) : Int) = (k : Nat) := wrap_c (by omega)
        have HR : Hid (Row w z T.zs) := hR
        clear hff hkl hy hR
        go_wp2
        go_ret2
        rw [HV.out.1, HV.out.2.1, HV.out.2.2]
        obtain ⟨h1, h2⟩ := HK.out.owner HR.out HL.out k who
        have hb := alloc_below (w.setCell ⟨z, k, none⟩ (.int .u32 who)) (.cells #[.int .u8 14, .int .u32 ah, .int .u32 av, .int .u32 am, .int .i64 aw] 39)
        exact ⟨rfl, ⟨u, h1.below hb⟩, h2.trans (Buts.of hb)⟩
      · have HY : Hid (T.zs.getD k 0 ≠ 0) := hy
        have hyw : (T.zs.getD k 0 == 0) = false := by simpa using hy
        clear hy hR
        obtain ⟨y, hy⟩ : ∃ y, T.zs.getD k 0 = y := ⟨_, rfl⟩
        rw [hy] at kk hyw
        clear hy
        go_wp2
        go_roundg g
        case measure => omega
        case rel => exact ⟨k + 1, by omega, by go_num, fun j hj => (by
            rcases Nat.lt_or_ge j k with h | h
            · exact HN.out j h
            · obtain rfl : j = k := by omega
              exact HY.out), rfl⟩
end Go.Proofs.YteicnekoogmmmaaGreatDoor
