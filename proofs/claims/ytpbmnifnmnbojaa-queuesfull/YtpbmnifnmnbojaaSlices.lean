/- Slices of slices that are read; what an append to a row of one's own leaves as it was. -/
import Derived.Test.YtpbmnifnmnbojaaSeen
import Derived.Test.YtpbmnifnmnbojaaPart
namespace Go.Proofs.Ytpbmnifnmnbojaa
open Go Go.RowKit
set_option maxRecDepth 100000
set_option linter.unusedVariables false
theorem Src.drop {w : World} {us : List Int} {b off : Nat} (h : Src w (some ⟨b, off, none⟩) us) (k : Nat) (hk : k ≤ us.length) : Src w (some ⟨b, off + k, none⟩) (us.drop k) := by
  intro hz
  obtain ⟨b', off', e, hc⟩ := h (by simp at hz; omega)
  simp only [Option.some.injEq, Addr.mk.injEq, and_true] at e
  obtain ⟨rfl, rfl⟩ := e
  refine ⟨b, off + k, rfl, fun i hi => ?_⟩
  have hi' : k + i < us.length := by simp at hi; omega
  rw [Nat.add_assoc, hc (k + i) hi']
  simp
theorem Src.take {w : World} {sp : Option Addr} {us : List Int} (h : Src w sp us) (k : Nat) : Src w sp (us.take k) := by
  intro hz
  obtain ⟨b, off, e, hc⟩ := h (by simp at hz; omega)
  refine ⟨b, off, e, fun i hi => ?_⟩
  have hi' : i < us.length ∧ i < k := by simp at hi; omega
  rw [hc i hi'.1]
  simp [hi'.2]
/-- what an append to a row of one's own leaves as it was -/
theorem own_grown {w w' : World} {B : Nat} {e : TypeId} {s n : Nat} {v : Value} {xs : List Value} (h : w.ownsRow B e s v n xs) (hg : w.grownBy w' v.ownBlock) (hB : B ≤ w.heap.size) : Below B w w' :=
  (Buts.grown hg).below (fun x hx => (h.lt x (by cases hv : v.ownBlock <;> simp_all)).1) hB
theorem own_src {w : World} {B g m cap : Nat} {us : List Int} (h : w.ownsRow B 22 1 (.slice (some ⟨g, 0, none⟩) m cap) m (us.map (Value.int .u32))) (hm : us.length = m) : Src w (some ⟨g, 0, none⟩) us := by
  subst hm
  obtain ⟨sp, c, e, hs⟩ := Src.own h
  simp only [Value.slice.injEq, true_and] at e
  obtain ⟨rfl, _⟩ := e
  exact hs
theorem own_at {w : World} {B g m cap : Nat} {us : List Int} (h : w.ownsRow B 22 1 (.slice (some ⟨g, 0, none⟩) m cap) m (us.map (Value.int .u32))) (hm : us.length = m) {i : Nat} (hi : i < m) : w.cell? ⟨g, i, none⟩ = some (.int .u32 (us.getD i 0)) := by
  obtain ⟨b, off, e, hc⟩ := own_src h hm (by omega)
  simp only [Option.some.injEq, Addr.mk.injEq, and_true] at e
  obtain ⟨rfl, rfl⟩ := e
  have := hc i (by omega)
  rwa [Nat.zero_add] at this
theorem own_one {w w' : World} {B e s n p ga m ca : Nat} {xs : List Value} (h : w.ownsRow B e s (.slice (some ⟨ga, 0, none⟩) m ca) n xs) (hb : Buts [p] w w') (h1 : ga ≠ p) : w'.ownsRow B e s (.slice (some ⟨ga, 0, none⟩) m ca) n xs :=
  owns_buts h hb fun x hx => by
    obtain rfl : ga = x := by simpa [Value.ownBlock] using hx
    simpa using h1
end Go.Proofs.Ytpbmnifnmnbojaa
