/- A new core. -/
import Derived.Test.YtomccgodfimaiaaGreatDoorCTop2
import Derived.Laws.Cover3
namespace Go.Proofs.YtomccgodfimaiaaGreatDoor
open Go Go.RowKit
set_option maxRecDepth 100000
set_option linter.all false
theorem eql_nilI (w : World) (a : Option Addr) (l c : Nat) : (binOp .eql 23 (.slice a l c) (.slice none 0 0)).run Tryz.prog w = .ok (.bool a.isNone) w := by
  simp [binOp, run_equal_slice_nil w 23 70 a l c Tryz.underlying23]
theorem news_of {w : World} {ad : Addr} {zs : List Int} (h : Src w (some ad) zs) : ∀ j u, (byt zs)[j]? = some u → w.cell? (ad.add j) = some u := by
  intro j u hj
  rcases zs with _ | ⟨z, zs⟩
  · simp [byt] at hj
  · obtain ⟨b, off, e, hc⟩ := h (by simp)
    obtain rfl := Option.some.inj e
    exact byt_news (fun _ => ⟨b, off, rfl, hc⟩) j u hj
section
attribute [local go_sem] eql_nilI
theorem four_one (zs : List Int) : ∀ u ∈ byt zs, u.oneCell' = true := byt_one zs
set_option maxHeartbeats 1000000 in
theorem clone_any {w : World} {sp : Option Addr} {cs : List Int} {k : Nat} (hs : Src w sp cs) (hk : cs.length = 4 * k) (hl : k ≤ 1024) (c : Nat) :
    Calls Tryz.prog 34 #[.slice sp k c] w fun e w' => ∃ v, e = .returned v ∧ w'.ownsRow w.heap.size 70 4 v k (byt cs) ∧ Below w.heap.size w w' := by
  obtain ⟨i0, hi, hz0, hz1, hz2⟩ := info_parts infoI
  rcases sp with _ | ad
  · have h0 : cs = [] := by
      rcases cs with _ | ⟨z, zs⟩
      · rfl
      · obtain ⟨b, o, e, _⟩ := hs (by simp)
        cases e
    subst h0
    obtain rfl : k = 0 := by simp at hk; omega
    go_enter Tryz.func34, Tryz.ntmps34
    go_wp2
    go_ret
    exact ⟨_, rfl, World.ownsRow_nil _ _ _ _, Below.refl _ _⟩
  · have HS : Hid (Src w (some ad) cs) := hs
    have HN : Hid (cs.length = 4 * k) := hk
    clear hs hk
    go_enter Tryz.func34, Tryz.ntmps34
    go_wp2_with (first
        | (at_builtin; refine wpList_append_own _ rfl _ _ 23 rfl w.heap.size 70 i0 _ 4 4 Tryz.underlying23 hi hz0 hz1 hz2 rfl (by decide) _ _ _ rfl (World.ownsRow_made w #[] 0 (Nat.le_refl _) (by simp) rfl) ad k c (byt cs) rfl (by rw [byt_len]; have := HN.out; omega) (news_of (HS.out.below (alloc_below w _))) (byt_one cs) (by simp only [maxLen]; omega) (by omega) (by rw [alloc_size]; omega) ?_; intro v' w1 hown' hgrow _; have HG : Hid ((w.alloc (.cells #[] 70)).grownBy w1 (some w.heap.size)) := hgrow; have HO3 : Hid (w1.ownsRow w.heap.size 70 4 v' (0 + k) ([] ++ byt cs)) := hown'; clear hown' hgrow))
    go_ret
    refine ⟨_, rfl, ?_, ?_⟩
    · have := HO3.out
      rwa [Nat.zero_add, List.nil_append] at this
    · exact (alloc_below w _).trans ((Buts.grown HG.out).below (fun x hx => by simp at hx; omega) (by rw [alloc_size]; omega))
end
end Go.Proofs.YtomccgodfimaiaaGreatDoor
