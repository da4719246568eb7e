/- Slices of slices that are read; what an append to a row of one's own leaves as it was. -/
import Derived.Test.YtppookpacdheaabHelps
namespace Go.Proofs.Ytppookpacdheaab
open Go Go.RowKit
set_option maxRecDepth 100000
set_option linter.unusedVariables false
theorem Src.drop {w : World} {us : List Int} {b off : Nat} (h : Src w (some ⟨b, off, none⟩) us) (k : Nat) (hk : k ≤ us.length) : Src w (some ⟨b, off + k, none⟩) (us.drop k) := by
  intro hz
  obtain ⟨b', off', e, hc⟩ := h (by simp at hz; omega)
  simp only [Option.some.injEq, Addr.mk.injEq, and_true] at e
  obtain ⟨rfl, rfl⟩ := e
  refine ⟨b, off + k, rfl, fun i hi => ?_⟩
  have hi' : k + i < us.length := by simp at hi; omega
  rw [Nat.add_assoc, hc (k + i) hi']
  simp
/-- what an append out of such a slice wants -/
theorem src_news {w : World} {b off : Nat} {zs : List Int} (h : Src w (some ⟨b, off, none⟩) zs) : ∀ j u, (zs.map (Value.int .i64))[j]? = some u → w.cell? ((⟨b, off, none⟩ : Addr).add j) = some u := by
  intro j u hj
  have hjl : j < zs.length := by
    rcases Nat.lt_or_ge j zs.length with k | k
    · exact k
    · rw [List.getElem?_eq_none (by simpa using k)] at hj; cases hj
  obtain ⟨b', off', e, hc⟩ := h (by omega)
  simp only [Option.some.injEq, Addr.mk.injEq, and_true] at e
  obtain ⟨rfl, rfl⟩ := e
  have hadd : (⟨b, off, none⟩ : Addr).add j = ⟨b, off + j, none⟩ := by unfold Addr.add; split <;> simp_all
  rw [hadd, hc j hjl]
  simpa [hjl] using hj
theorem ints_one (zs : List Int) : ∀ u ∈ zs.map (Value.int .i64), u.oneCell' = true := by
  intro u hu
  obtain ⟨z, _, rfl⟩ := List.mem_map.1 hu
  rfl
theorem Src.take {w : World} {sp : Option Addr} {us : List Int} (h : Src w sp us) (k : Nat) : Src w sp (us.take k) := by
  intro hz
  obtain ⟨b, off, e, hc⟩ := h (by simp at hz; omega)
  refine ⟨b, off, e, fun i hi => ?_⟩
  have hi' : i < us.length ∧ i < k := by simp at hi; omega
  rw [hc i hi'.1]
  simp [hi'.2]
/-- what an append to a row of one's own leaves as it was -/
theorem own_grown {w w' : World} {B : Nat} {e : TypeId} {s n : Nat} {v : Value} {xs : List Value} (h : w.ownsRow B e s v n xs) (hg : w.grownBy w' v.ownBlock) (hB : B ≤ w.heap.size) : Below B w w' :=
  (Buts.grown hg).below (fun x hx => (h.lt x (by cases hv : v.ownBlock <;> simp_all)).1) hB
theorem turn_rot {us : List Int} {m i : Nat} (hm : us.length = m) (h0 : 0 < m) : takeE (rot us (i % m)) = 0 ∧ turnL (rot us (i % m)) = rot us ((i + 1) % m) := by
  subst hm
  have hf := Nat.mod_lt i h0
  refine ⟨?_, by rw [rot_turn hf, turn_mod h0]⟩
  unfold takeE
  rw [rot_len hf, if_neg (by omega)]
theorem own_src {w : World} {B g m cap : Nat} {us : List Int} (h : w.ownsRow B 3 1 (.slice (some ⟨g, 0, none⟩) m cap) m (us.map (Value.int .i64))) (hm : us.length = m) : Src w (some ⟨g, 0, none⟩) us := by
  subst hm
  obtain ⟨sp, c, e, hs⟩ := Src.own h
  simp only [Value.slice.injEq, true_and] at e
  obtain ⟨rfl, _⟩ := e
  exact hs
theorem BSrc.mono {B B' : Nat} {w : World} {sp : Option Addr} {zs : List Int} (h : BSrc B w sp zs) (hb : B ≤ B') : BSrc B' w sp zs :=
  ⟨fun hz => by obtain ⟨b, off, e, hB, hc⟩ := h.spot hz; exact ⟨b, off, e, by omega, hc⟩, h.wf⟩
theorem unlike_nil {w : World} (sp : Option Addr) (cap : Nat) : Calls Try.prog 5 #[.slice sp 0 cap] w fun e w' => e = .returned (.slice none 0 0) ∧ w' = w := by
  go_enter Try.func5, Try.ntmps5
  go_wp2
  refine wp_loop_rounds 1 ?_
  rw [rounds_succ]
  go_wp2
  go_ret
  exact ⟨rfl, rfl⟩
end Go.Proofs.Ytppookpacdheaab
