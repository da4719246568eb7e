/- The document's own thing: whatever is asked of queues, flags and pools. -/
import Derived.Test.YteicnekoogmmmaaGreatDoorKM5
namespace Go.Proofs.YteicnekoogmmmaaGreatDoor
open Go Go.RowKit
set_option maxRecDepth 100000
set_option linter.unusedVariables false
/-- what holds of every thing -/
structure Rg (T : Sx) : Prop where
  n : T.n < 4294967296
  xs : T.xs.length ≤ 64
  zs : T.zs.length ≤ 64
  row : T.k = 3 → ∃ m : Nat, T.a = (m : Nat) ∧ 1 ≤ m ∧ m ≤ 64 ∧ T.xs.length ≤ m
  sem : T.k = 1 → (T.n : Int) ≤ T.b ∧ T.b ≤ 1073741824
  k : 1 ≤ T.k ∧ T.k ≤ 6
theorem KT.rg {w : World} {p f g : Nat} {T : Sx} (h : KT w p f g T) : Rg T := by
  cases h with
  | @sem a b n h => exact ⟨by have := h.hi; have := h.top; simp only; omega, by simp, by simp, fun e => by simp at e, fun _ => ⟨h.hi, h.top⟩, by simp⟩
  | mtx h => exact ⟨by simp, by simp, by simp, fun e => by simp at e, fun e => by simp at e, by simp⟩
  | row h => exact ⟨by simp, Nat.le_trans h.hq.len h.hq.hi, by simp, fun _ => ⟨_, rfl, h.hq.lo, h.hq.hi, h.hq.len⟩, fun e => by simp at e, by simp⟩
  | flg h => exact ⟨h.hi, by simp, by simp, fun e => by simp at e, fun e => by simp at e, by simp⟩
  | pool h => exact ⟨by simp, by simp, by have h1 := h.hq.len; have h2 := h.hq.hi; simp only; omega, fun e => by simp at e, fun e => by simp at e, by simp⟩
  | ala h => exact ⟨by simp, by simp, by simp, fun e => by simp at e, fun e => by simp at e, by simp⟩
theorem kmore_x {s : Nat} {w : World} {q z : Nat} {u v : Value} {T : Sx} (h : KR s w q z u v T) (hs : s ≤ w.heap.size) (hr : Rg T) (who wh ah : Int) (av am : Nat) (aw : Int) (hf : Tk.fitB wh T.k = true) (h7 : 7 ≤ wh ∧ wh ≤ 15) (ha : ¬ (wh = 11 ∧ 3 < am)) (hv : av < 4294967296) :
    Calls Tryz.prog 22 #[.pointer (some ⟨q, 0, none⟩), .int .u32 who, .agg #[.int .u8 wh, .int .u32 ah, .int .u32 (av : Nat), .int .u32 (am : Nat), .int .i64 aw]] w (KAns s w q z v (tX T who wh av am)) := by
  have hq := fit_of hf
  obtain rfl | rfl | rfl | rfl | rfl | rfl | rfl | rfl | rfl : wh = 7 ∨ wh = 8 ∨ wh = 9 ∨ wh = 10 ∨ wh = 11 ∨ wh = 12 ∨ wh = 13 ∨ wh = 14 ∨ wh = 15 := by omega
  · obtain ⟨m, hm, m1, m2, hl⟩ := hr.row (by omega)
    have e0 : tX T who 7 av am = (0, ny (addE T.xs m), { T with xs := putL T.xs m av }) := by simp [tX, hm]
    rw [e0]
    by_cases hfl : T.xs.length = m
    · rw [addE_full hfl, putL_full hfl]
      exact kadd_full h m hm m2 hfl 7 (Or.inl rfl) who ah av am aw
    · rw [addE_ok hfl, putL_ok hfl]
      by_cases hn : T.xs = []
      · rw [hn]
        exact kput_nil h hs m hm m2 hn m1 who ah av am aw
      · exact kput_more h hs m hm m2 T.xs rfl hn (by omega) who ah av am aw
  · obtain ⟨m, hm, m1, m2, hl⟩ := hr.row (by omega)
    have e0 : tX T who 8 av am = (0, ny (addE T.xs m), { T with xs := pushL T.xs m av }) := by simp [tX, hm]
    rw [e0]
    by_cases hfl : T.xs.length = m
    · rw [addE_full hfl, pushL_full hfl]
      exact kadd_full h m hm m2 hfl 8 (Or.inr rfl) who ah av am aw
    · rw [addE_ok hfl, pushL_ok hfl]
      by_cases hn : T.xs = []
      · rw [hn]
        exact kpush_nil h hs m hm m2 hn m1 who ah av am aw
      · exact kpush_more h hs m hm m2 T.xs rfl hn (by omega) who ah av am aw
  · have e0 : tX T who 9 av am = (T.xs.headD 0, ny (takeE T.xs), { T with xs := T.xs.tail }) := by simp [tX]
    rw [e0]
    have hx := hr.xs
    rcases hn : T.xs with _ | ⟨x, _ | ⟨y, ys⟩⟩
    · have := kget_nil h hs hn who ah av am aw
      rw [takeE_nil]
      have e2 : ({ T with xs := ([] : List Int).tail } : Sx) = T := by cases T; simp_all
      rw [e2]
      exact this
    · rw [takeE_cons]
      exact kget_one h hs x hn who ah av am aw
    · rw [takeE_cons]
      exact kget_more h hs x (y :: ys) hn (by simp) (by rw [hn] at hx; simp at hx; simp; omega) who ah av am aw
  · have e0 : tX T who 10 av am = (T.xs.headD 0, takeE T.xs, T) := by simp [tX]
    rw [e0]
    exact kpeek h hr.xs who ah av am aw
  · have e0 : tX T who 11 av am = (((awV T.n av (decide (am % 2 = 1)) : Nat) : Int), awE T.n av (decide (am % 2 = 1)), { T with n := awF T.n av (decide (am % 2 = 1)) (decide (2 ≤ am)) }) := by simp [tX]
    rw [e0]
    cases ho : Mk.hold T.n av (decide (am % 2 = 1))
    · have := kawait_no h hr.n av am hv (by omega) who ah aw _ rfl ho
      simpa [awV, awE, awF, ho] using this
    · have := kawait_yes h hr.n av am hv (by omega) who ah aw _ _ rfl rfl ho
      simpa [awV, awE, awF, ho] using this
  · have e0 : tX T who 12 av am = (((T.n ||| av : Nat) : Int), 0, { T with n := T.n ||| av }) := by simp [tX]
    rw [e0]
    exact kraise h hr.n av hv who ah am aw
  · have e0 : tX T who 13 av am = (((Mk.bt T.n av : Nat) : Int), 0, { T with n := Mk.bt T.n av }) := by simp [tX]
    rw [e0]
    exact klower h hr.n av hv who ah am aw
  · have e0 : tX T who 14 av am = (alV T.zs, alE T.zs, { T with zs := alL T.zs who }) := by simp [tX]
    rw [e0]
    exact kalloc h hr.zs who ah av am aw
  · have e0 : tX T who 15 av am = (0, frE T.zs who av, { T with zs := frL T.zs who av }) := by simp [tX]
    rw [e0]
    unfold frE frL
    by_cases h1 : T.zs.length ≤ av
    · rw [if_pos h1, if_pos h1]
      exact kfree_arg h hr.zs av h1 who ah am aw
    · rw [if_neg h1, if_neg h1]
      by_cases h2 : T.zs.getD av 0 = who
      · rw [if_pos h2, if_pos h2]
        exact kfree_yes h hr.zs av (by omega) who ah am aw h2
      · rw [if_neg h2, if_neg h2]
        exact kfree_no h hr.zs av (by omega) who ah am aw h2
end Go.Proofs.YteicnekoogmmmaaGreatDoor
