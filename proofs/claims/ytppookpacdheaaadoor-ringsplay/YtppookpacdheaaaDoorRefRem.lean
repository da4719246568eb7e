/- What 'Remove' of the document's own ring answers, and leaves behind. -/
import Derived.Test.YtppookpacdheaaaDoorRefDo
namespace Go.Proofs.YtppookpacdheaaaDoor
open Go Go.RowKit
set_option maxRecDepth 100000
set_option linter.unusedVariables false
theorem own_grown {w w' : World} {B : Nat} {e : TypeId} {s n : Nat} {v : Value} {xs : List Value} (h : w.ownsRow B e s v n xs) (hg : w.grownBy w' v.ownBlock) (hB : B ≤ w.heap.size) : Below B w w' :=
  (Buts.grown hg).below (fun x hx => (h.lt x (by cases hv : v.ownBlock <;> simp_all)).1) hB
theorem Src.drop {w : World} {us : List Int} {b off : Nat} (h : Src w (some ⟨b, off, none⟩) us) (k : Nat) (hk : k ≤ us.length) : Src w (some ⟨b, off + k, none⟩) (us.drop k) := by
  intro hz
  obtain ⟨b', off', e, hc⟩ := h (by simp at hz; omega)
  simp only [Option.some.injEq, Addr.mk.injEq, and_true] at e
  obtain ⟨rfl, rfl⟩ := e
  refine ⟨b, off + k, rfl, fun i hi => ?_⟩
  have hi' : k + i < us.length := by simp at hi; omega
  rw [Nat.add_assoc, hc (k + i) hi']
  simp
theorem Src.take {w : World} {sp : Option Addr} {us : List Int} (h : Src w sp us) (k : Nat) : Src w sp (us.take k) := by
  intro hz
  obtain ⟨b, off, e, hc⟩ := h (by simp at hz; omega)
  refine ⟨b, off, e, fun i hi => ?_⟩
  have hi' : i < us.length ∧ i < k := by simp at hi; omega
  rw [hc i hi'.1]
  simp [hi'.2]
set_option maxHeartbeats 4000000 in
theorem rremove_any {B : Nat} {w : World} {q n : Nat} {v : Value} {xs : List Int} (h : Ref B w q n v xs) (hB : B ≤ w.heap.size) (z : Int) :
    Calls Tryd.prog 13 #[.pointer (some ⟨q, 0, none⟩), .int .i64 z] w fun e w' => e = .returned (.int .i64 (remE xs z)) ∧ Next B w w' q n v (xs.erase z) := by
  have HR : Hid (Ref B w q n v xs) := h
  by_cases hm : z ∈ xs
  · rw [show remE xs z = 0 by simp [remE, hm]]
    obtain ⟨k, hk, he, hlow, hE⟩ := first_at hm
    have hP := rat_in h hk he hlow
    have c0 := h.c0
    have hmx : xs.length ≤ 1024 := Nat.le_trans h.len h.hi
    obtain ⟨i0, hi, hz0, hz1, hz2⟩ := info_parts infoW
    rcases h.part with ⟨_, e⟩ | ⟨b, off, cap, cur, rfl, hBb, hh, hc, hsz, hx⟩
    · subst e; simp at hk
    · have HX : Hid (Src w (some ⟨b, off, none⟩) xs) := fun _ => ⟨b, off, rfl, fun i hi => by rw [cell_of hh]; exact hx i hi⟩
      have HE : Hid (xs.erase z = xs.take k ++ xs.drop (k + 1)) := by show _ = _; rw [hE, List.eraseIdx_eq_take_drop_succ]
      have HLE : Hid ((xs.erase z).length ≤ n) := Nat.le_trans (List.length_erase_le) h.len
      have HEL : Hid ((xs.take k ++ xs.drop (k + 1)).length = k + (xs.length - (k + 1))) := by show _ = _; simp; omega
      have D1 : Hid (((xs.take k).map (Value.int .i64)).length = k * 1) := by show _ = _; simp; omega
      have D2 : Hid (∀ j u, ((xs.take k).map (Value.int .i64))[j]? = some u → w.cell? ((⟨b, off, none⟩ : Addr).add j) = some u) := src_news (HX.out.take k)
      have E1 : Hid (((xs.drop (k + 1)).map (Value.int .i64)).length = (xs.length - (k + 1)) * 1) := by show _ = _; simp
      obtain ⟨m, hm'⟩ : ∃ m, xs.length = m := ⟨_, rfl⟩
      have HM : Hid (xs.length = m) := hm'
      rw [hm'] at c0 HR hc hmx hk E1 HEL ⊢
      have hk0 : ¬ ((k : Int) < 0) := by omega
      have hkc : k ≤ cap := by omega
      have hk1 : k + 1 ≤ m := by omega
      have hkcI : (k : Int) ≤ cap := by omega
      have hk1I : (k : Int) + 1 ≤ m := by omega
      clear h hh hx hsz hm' hm he hlow hE hBb
      by_cases h1 : cap = k + 1
      · obtain rfl : m = k + 1 := by omega
        subst h1
        have EN : Hid (xs.drop (k + 1) = []) := List.drop_eq_nil_of_le (by have := HM.out; omega)
        have HEA : Hid (xs.erase z = xs.take k) := by show _ = _; rw [HE.out, EN.out, List.append_nil]
        have HLA : Hid ((xs.take k).length = k + 0) := by show _ = _; have := HM.out; simp; omega
        go_enter Tryd.func13, Tryd.ntmps13
        go_wp2_with (first
          | (go_at_call 30; refine hP.mono ?_; rintro e wx ⟨rfl, hwx⟩; obtain rfl := hwx.symm)
          | (at_builtin; clear M1; refine wpList_append_own _ rfl _ _ 46 rfl w.heap.size 3 i0 (.int .i64 0) 1 8 Tryd.underlying46 hi hz0 hz1 hz2 rfl (by decide) (.slice sp1 k c1) k ((xs.take k).map (Value.int .i64)) rfl HO1.out ⟨b, off, none⟩ 0 0 [] rfl rfl (by intro j u hj; simp at hj) (by simp) (by simp only [maxLen]; omega) (by omega) HB1.out.size ?_; intro v2 w2 ho2 hg2 _; have hb2 : Below w.heap.size w w2 := HB1.out.trans (own_grown HO1.out hg2 HB1.out.size); have ho3 : w2.ownsRow w.heap.size 3 1 v2 (xs.erase z).length ((xs.erase z).map (Value.int .i64)) := (by rw [HEA.out, HLA.out]; rw [List.append_nil] at ho2; exact ho2); obtain ⟨sp2, c2, rfl, _, _, _⟩ := own_form ho3; have HF : Hid (w2.heap[q]? = some (.cells #[.slice (some ⟨b, off, none⟩) (k + 1) (k + 1), .int .i64 n] 57 (0, 0)) ∧ Next B w (w2.setCell ⟨q, 0, none⟩ (.slice sp2 (xs.erase z).length c2)) q n (.slice (some ⟨b, off, none⟩) (k + 1) (k + 1)) (xs.erase z)) := HR.out.fresh hB hb2 ho3 HLE.out; have k2 : w2.cell? ⟨q, 0, none⟩ = some (.slice (some ⟨b, off, none⟩) (k + 1) (k + 1)) := (by rw [cell_of HF.out.1]; rfl); have f2 : w2.frozen? ⟨q, 0, none⟩ = false := (by simp [World.frozen?, HF.out.1]); clear ho2 hg2 hb2 ho3)
          | (at_builtin; refine wpList_append_own _ rfl _ _ 46 rfl w.heap.size 3 i0 (.int .i64 0) 1 8 Tryd.underlying46 hi hz0 hz1 hz2 rfl (by decide) (.slice none 0 0) 0 [] rfl (World.ownsRow_nil _ _ _ _) ⟨b, off, none⟩ k (k + 1) ((xs.take k).map (Value.int .i64)) rfl D1.out D2.out (ints_one _) (by simp only [maxLen]; omega) (by omega) (Nat.le_refl _) ?_; intro v1 w1 ho1 hg1 _; rw [Nat.zero_add, List.nil_append] at ho1; obtain ⟨sp1, c1, rfl, _, _, _⟩ := own_form ho1; have HO1 : Hid (w1.ownsRow w.heap.size 3 1 (.slice sp1 k c1) k ((xs.take k).map (Value.int .i64))) := ho1; have HB1 : Hid (Below w.heap.size w w1) := (Buts.grown hg1).below (fun x hx => (by simp [Value.ownBlock] at hx)) (Nat.le_refl _); have H1 : Hid (Ref B w1 q n (.slice (some ⟨b, off, none⟩) (k + 1) (k + 1)) xs) := HR.out.below HB1.out; have c01 := H1.out.c0; have X1 : Hid (Src w1 (some ⟨b, off, none⟩) xs) := HX.out.below HB1.out; have M1 := True.intro; clear ho1 hg1))
        go_ret
        exact ⟨rfl, HF.out.2⟩
      · have h1I : ¬ (cap : Int) = (k : Int) + 1 := by omega
        go_enter Tryd.func13, Tryd.ntmps13
        go_wp2_with (first
          | (go_at_call 30; refine hP.mono ?_; rintro e wx ⟨rfl, hwx⟩; obtain rfl := hwx.symm)
          | (at_builtin; clear M1; refine wpList_append_own _ rfl _ _ 46 rfl w.heap.size 3 i0 (.int .i64 0) 1 8 Tryd.underlying46 hi hz0 hz1 hz2 rfl (by decide) (.slice sp1 k c1) k ((xs.take k).map (Value.int .i64)) rfl HO1.out ⟨b, off + (k + 1), none⟩ (m - (k + 1)) (cap - (k + 1)) ((xs.drop (k + 1)).map (Value.int .i64)) rfl E1.out (src_news (X1.out.drop (k + 1) (by have := HM.out; omega))) (ints_one _) (by simp only [maxLen]; omega) (by omega) HB1.out.size ?_; intro v2 w2 ho2 hg2 _; have hb2 : Below w.heap.size w w2 := HB1.out.trans (own_grown HO1.out hg2 HB1.out.size); have ho3 : w2.ownsRow w.heap.size 3 1 v2 (xs.erase z).length ((xs.erase z).map (Value.int .i64)) := (by rw [HE.out, List.map_append, HEL.out]; exact ho2); obtain ⟨sp2, c2, rfl, _, _, _⟩ := own_form ho3; have HF : Hid (w2.heap[q]? = some (.cells #[.slice (some ⟨b, off, none⟩) m cap, .int .i64 n] 57 (0, 0)) ∧ Next B w (w2.setCell ⟨q, 0, none⟩ (.slice sp2 (xs.erase z).length c2)) q n (.slice (some ⟨b, off, none⟩) m cap) (xs.erase z)) := HR.out.fresh hB hb2 ho3 HLE.out; have k2 : w2.cell? ⟨q, 0, none⟩ = some (.slice (some ⟨b, off, none⟩) m cap) := (by rw [cell_of HF.out.1]; rfl); have f2 : w2.frozen? ⟨q, 0, none⟩ = false := (by simp [World.frozen?, HF.out.1]); clear ho2 hg2 hb2 ho3)
          | (at_builtin; refine wpList_append_own _ rfl _ _ 46 rfl w.heap.size 3 i0 (.int .i64 0) 1 8 Tryd.underlying46 hi hz0 hz1 hz2 rfl (by decide) (.slice none 0 0) 0 [] rfl (World.ownsRow_nil _ _ _ _) ⟨b, off, none⟩ k cap ((xs.take k).map (Value.int .i64)) rfl D1.out D2.out (ints_one _) (by simp only [maxLen]; omega) (by omega) (Nat.le_refl _) ?_; intro v1 w1 ho1 hg1 _; rw [Nat.zero_add, List.nil_append] at ho1; obtain ⟨sp1, c1, rfl, _, _, _⟩ := own_form ho1; have HO1 : Hid (w1.ownsRow w.heap.size 3 1 (.slice sp1 k c1) k ((xs.take k).map (Value.int .i64))) := ho1; have HB1 : Hid (Below w.heap.size w w1) := (Buts.grown hg1).below (fun x hx => (by simp [Value.ownBlock] at hx)) (Nat.le_refl _); have H1 : Hid (Ref B w1 q n (.slice (some ⟨b, off, none⟩) m cap) xs) := HR.out.below HB1.out; have c01 := H1.out.c0; have X1 : Hid (Src w1 (some ⟨b, off, none⟩) xs) := HX.out.below HB1.out; have M1 := True.intro; clear ho1 hg1))
        go_ret
        exact ⟨rfl, HF.out.2⟩
  · rw [show remE xs z = 1 by simp [remE, hm], List.erase_of_not_mem hm]
    have hP := rat_out h hm
    clear h hm
    go_enter Tryd.func13, Tryd.ntmps13
    go_wp2_with (first
      | (go_at_call 30; refine hP.mono ?_; rintro e wx ⟨rfl, hwx⟩; obtain rfl := hwx.symm))
    go_ret
    exact ⟨rfl, HR.out.next (Below.refl _ _)⟩
end Go.Proofs.YtppookpacdheaaaDoor
