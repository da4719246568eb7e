/- The image of bytes: Get, for all bytes. -/
import Derived.Test.YtcjghnnliepjjaaGreatDoorGetY
namespace Go.Proofs.YtcjghnnliepjjaaGreatDoor
open Go Go.RowKit
set_option maxRecDepth 100000
set_option linter.unusedVariables false
/-- what is answered, by the image that there is -/
def GetRes (w w' : World) (e : Ending) : Option (Int × List Int × List Int × Nat) → Prop
  | none => e = .returned (.tuple #[.agg #[.int .i64 0, .slice none 0 0, .slice none 0 0], .int .i64 14]) ∧ Below w.heap.size w w'
  | some (n, ds, cs, k) => ∃ vd vc, e = .returned (.tuple #[.agg #[.int .i64 n, vd, vc], .int .i64 0]) ∧ w'.ownsRow w.heap.size 5 1 vd ds.length (byt ds) ∧ w'.ownsRow w.heap.size 64 4 vc k (byt cs) ∧ Below w.heap.size w w'
theorem getI_short {zs : List Int} (h : zs.length < 9) : getI zs = none := by
  unfold getI
  rw [if_neg]
  rintro ⟨hf, _⟩
  have := (fits_iff zs).1 hf
  omega
theorem getI_other {zs : List Int} (h : zs.take 3 ≠ [116, 107, 49]) : getI zs = none := by
  unfold getI
  rw [if_neg]
  rintro ⟨hf, _⟩
  exact h ((fits_iff zs).1 hf).1.2
theorem getI_off {zs : List Int} (h : okC (cnt zs 0) (cnt zs 1) (cnt zs 2) = false ∨ (zs.length : Int) ≠ 9 + cnt zs 1 + cnt zs 2 * 4) : getI zs = none := by
  unfold getI
  rw [if_neg]
  rintro ⟨hf, _⟩
  have := (fits_iff zs).1 hf
  rcases h with h | h
  · rw [(okC_iff _ _ _).2 this.2.1] at h; cases h
  · exact h this.2.2
theorem Get_any {w : World} (hE : Env w) {sp : Option Addr} {zs : List Int} (hs : Src w sp zs) (hb : Bs zs) (c : Nat) (hc : zs.length ≤ c) :
    Calls Tryz.prog 20 #[.slice sp zs.length c] w fun e w' => GetRes w w' e (getI zs) := by
  by_cases h9 : zs.length < 9
  · rw [getI_short h9]
    exact (Get_un (w := w) c fun W hW => readCounts_short c h9).mono fun _ _ h => h
  · by_cases ht : zs.take 3 = [116, 107, 49]
    · have d1 := cnt_bd hb 1
      have d2 := cnt_bd hb 2
      have cR : ∀ W, Below w.heap.size w W → _ := fun W hW => readCounts_yes (hs.below hW) hb c hc (by omega) ht
      by_cases hok : okC (cnt zs 0) (cnt zs 1) (cnt zs 2) = true ∧ (zs.length : Int) = 9 + cnt zs 1 + cnt zs 2 * 4
      · obtain ⟨d, hd⟩ : ∃ d : Nat, cnt zs 1 = d := ⟨(cnt zs 1).toNat, by omega⟩
        obtain ⟨k, hk⟩ : ∃ k : Nat, cnt zs 2 = k := ⟨(cnt zs 2).toNat, by omega⟩
        have hf : fits zs = true := (fits_iff zs).2 ⟨⟨by omega, ht⟩, (okC_iff _ _ _).1 hok.1, hok.2⟩
        have b := (okC_iff _ _ _).1 hok.1
        have hG := Get_fits hE hs hb c hc (cnt zs 0) d k (by rw [hd, hk] at hok; omega) (by omega) (by omega) (by rw [← hd, ← hk]; exact hok.1) (by rw [← hd, ← hk]; exact cR)
        refine hG.mono fun e w' h => ?_
        unfold GetPost at h
        have hcod : codOf zs = (zs.drop 9).drop d := by unfold codOf; rw [hd]; rfl
        have hdat : datOf zs = (zs.drop 9).take d := by unfold datOf; rw [hd]; rfl
        unfold getI
        rw [hcod, hdat, hk]
        by_cases hm : mayAll ((zs.drop 9).drop d) k = true
        · rw [if_pos hm] at h
          rw [if_pos ⟨hf, by simpa using hm⟩]
          obtain ⟨⟨vd, vc, he, h1, h2⟩, h3⟩ := h
          exact ⟨vd, vc, he, h1, h2, h3⟩
        · rw [if_neg hm] at h
          rw [if_neg (fun q => hm (by simpa using q.2))]
          exact h
      · have hno : okC (cnt zs 0) (cnt zs 1) (cnt zs 2) = false ∨ (zs.length : Int) ≠ 9 + cnt zs 1 + cnt zs 2 * 4 := by
          cases ho : okC (cnt zs 0) (cnt zs 1) (cnt zs 2) with
          | false => exact Or.inl rfl
          | true => exact Or.inr fun e => hok ⟨ho, e⟩
        rw [getI_off hno]
        exact (Get_off (w := w) c _ _ _ d1 d2 cR hno).mono fun _ _ h => h
    · rw [getI_other ht]
      exact (Get_un (w := w) c fun W hW => readCounts_other (hs.below hW) hb c hc (by omega) ht).mono fun _ _ h => h
end Go.Proofs.YtcjghnnliepjjaaGreatDoor
