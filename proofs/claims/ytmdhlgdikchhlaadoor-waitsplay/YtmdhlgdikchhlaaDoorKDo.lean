/- The document's own queue: somebody is removed. -/
import Derived.Test.YtmdhlgdikchhlaaDoorKRef
namespace Go.Proofs.YtmdhlgdikchhlaaDoor
open Go Go.RowKit
set_option maxRecDepth 100000
set_option linter.unusedVariables false
set_option linter.unusedSimpArgs false
/-- a stretch of it that is read, from a place on -/
theorem from_at {B : Nat} {w : World} {g n cap : Nat} {ys : List (Int × Int)} (h : OwnS B w (.slice (some ⟨g, 0, none⟩) n cap) ys) (hn : n = ys.length) {k1 : Nat} (hk : k1 ≤ n) (hc : n ≤ cap) :
    ∃ AD : Addr, (if cap = k1 then some (⟨g, 0, none⟩ : Addr) else some ⟨g, k1 * 2, none⟩) = some AD ∧ ∀ w1, Below w.heap.size w w1 → ∀ j u, (lks (ys.drop k1))[j]? = some u → w1.cell? (AD.add j) = some u := by
  by_cases hcj : cap = k1
  · refine ⟨⟨g, 0, none⟩, by rw [if_pos hcj], fun w1 _ j u hj => ?_⟩
    rw [List.drop_eq_nil_of_le (by omega)] at hj
    simp [lks] at hj
  · exact ⟨⟨g, k1 * 2, none⟩, by rw [if_neg hcj], fun w1 hb => sdrop_cells (h.below hb) hn k1⟩
theorem to_at {B : Nat} {w : World} {g n cap : Nat} {ys : List (Int × Int)} (h : OwnS B w (.slice (some ⟨g, 0, none⟩) n cap) ys) (hn : n = ys.length) (k : Nat) {w1 : World} (hb : Below w.heap.size w w1) :
    ∀ j u, (lks (ys.take k))[j]? = some u → w1.cell? ((⟨g, 0, none⟩ : Addr).add j) = some u := fun j u hj => by
  have := sdrop_cells (h.below hb) hn 0 j u (by
    rw [List.drop_zero]
    rw [lks_take, List.getElem?_take] at hj
    split at hj
    · exact hj
    · cases hj)
  simpa using this
set_option maxHeartbeats 8000000 in
theorem kremove_any {B : Nat} {w : World} {q : Nat} {ys : List (Int × Int)} (h : KR B w q ys) (hB : B ≤ w.heap.size) (who : Int) :
    Calls Tryd.prog 8 #[.pointer (some ⟨q, 0, none⟩), .int .i64 who] w fun e w' => e = .returned (.int .i64 (remE ys who)) ∧ KR B w' q (gone ys who) ∧ Buts [q] w w' := by
  obtain ⟨v, h⟩ := h
  have HR : Hid (Ref B w q v ys) := h
  have hK := kat_any h who
  by_cases hh : has ys who = true
  · have e : remE ys who = 0 := by simp [remE, hh]
    have ek : kv ys who = (wi ys who : Int) := by unfold kv; rw [if_pos hh]
    have hlt := has_lt hh
    have hlen := h.len
    rw [e]
    rw [ek] at hK
    obtain ⟨g, cap, hv, hc1, hc2⟩ := h.own.spot (by omega)
    have hown := h.own
    have hlk := h.lnk
    have hfp := h.fp 0
    have HQL : Hid (q < w.heap.size) := at_lt h.head
    rw [hv] at hown hlk
    have hG : gone ys who = ys.take (wi ys who) ++ ys.drop (wi ys who + 1) := List.eraseIdx_eq_take_drop_succ ys (wi ys who)
    have hgl := gone_len ys who
    rw [hG] at hgl ⊢
    obtain ⟨K, hKK⟩ : ∃ K, wi ys who = K := ⟨_, rfl⟩
    rw [hKK] at hK hlt hgl ⊢
    obtain ⟨n, hn⟩ : ∃ n, ys.length = n := ⟨_, rfl⟩
    rw [hn] at hlt hlen hc1 hown hlk hgl
    have HN : Hid (ys.length = n) := hn
    obtain ⟨k1, hk1⟩ : ∃ k1 : Nat, k1 = K + 1 := ⟨_, rfl⟩
    obtain ⟨AD, hA, hAD⟩ := from_at hown hn.symm (k1 := k1) (by omega) hc1
    have HAD : Hid (∀ w1, Below w.heap.size w w1 → ∀ j u, (lks (ys.drop k1))[j]? = some u → w1.cell? (AD.add j) = some u) := hAD
    have HTO : Hid (∀ w1, Below w.heap.size w w1 → ∀ j u, (lks (ys.take K))[j]? = some u → w1.cell? ((⟨g, 0, none⟩ : Addr).add j) = some u) := fun w1 hb => to_at hown hn.symm K hb
    rw [← hk1] at hgl ⊢
    have HEND : Hid (∀ sp m c w2, OwnS w.heap.size w2 (.slice sp m c) (ys.take K ++ ys.drop k1) → Below w.heap.size w w2 → w2.cell? ⟨q, 0, none⟩ = some v ∧ w2.frozen? ⟨q, 0, none⟩ = false ∧ KR B (w2.setCell ⟨q, 0, none⟩ (.slice sp m c)) q (ys.take K ++ ys.drop k1) ∧ Buts [q] w (w2.setCell ⟨q, 0, none⟩ (.slice sp m c))) := fun sp m c w2 ho hb => h.lay hB ho hb (by omega)
    rw [hv, hn] at HEND
    have a1 : (K : Int) < n := by omega
    have a2 : ¬ ((K : Int) < 0) := by omega
    have a3 : (K : Int) ≤ cap := by omega
    have a4 : (K : Int) + 1 = k1 := by omega
    have a5 : (n : Int) ≤ cap := by omega
    have a6 : (k1 : Int) ≤ n := by omega
    have a7 : (k1 : Int) ≤ cap := by omega
    have a8 : IntKind.i64.wrap (k1 : Int) = (k1 : Int) := by rw [IntKind.wrap_i64]; omega
    have HT1 : Hid ((ys.take K).length = K) := by show _ = _; rw [List.length_take, hn]; omega
    have HT2 : Hid ((ys.drop k1).length = n - k1) := by show _ = _; rw [List.length_drop, hn]
    have HLIM : Hid (K + (n - k1) ≤ 2000 ∧ K ≤ 2000) := by show _ ∧ _; omega
    have hd0 : Below w.heap.size w w.drew := (Below.refl _ w).drew
    simp only [maxLen] at hc2
    clear h e ek hh hv hG hgl hKK hn hk1 hAD hown
    go_enter Tryd.func8, Tryd.ntmps8
    go_wp2_with (first | (go_at_call 22; refine hK.mono ?_; rintro e wx ⟨rfl, rfl⟩))
    go_region_law (first
      | (refine step_srow rfl (.tmp 18) (.tmp 25) rfl w.heap.size (.slice s2 n2 c2) ([] ++ ys.take K) (ys.drop k1) (by go_simp) H1.out.1 AD (n - k1) (cap - k1) (by go_simp) HT2.out (by rw [List.nil_append, HT1.out]; exact HLIM.out.1) (HAD.out w2 H1.out.2) H1.out.2.size ?_; intro s3 n3 c3 w3 ho3 hb3 _; obtain ⟨q3, f3, k3, b3⟩ := HEND.out s3 n3 c3 w3 ho3 (H1.out.2.trans hb3); have HK : Hid (KR B (w3.setCell ⟨q, 0, none⟩ (.slice s3 n3 c3)) q (ys.take K ++ ys.drop k1) ∧ Buts [q] w (w3.setCell ⟨q, 0, none⟩ (.slice s3 n3 c3))) := ⟨k3, b3⟩; clear k3 b3 ho3 hb3 H1)
      | (refine step_srow rfl (.const (.slice none 0 0)) (.tmp 17) rfl w.heap.size (.slice none 0 0) [] (ys.take K) rfl (World.ownsRow_nil _ _ _ _) ⟨g, 0, none⟩ K cap (by go_simp) HT1.out (by rw [List.length_nil, Nat.zero_add]; exact HLIM.out.2) (HTO.out w.drew hd0) hd0.size ?_; intro s2 n2 c2 w2 ho2 hb2 _; have H1 : Hid (OwnS w.heap.size w2 (.slice s2 n2 c2) ([] ++ ys.take K) ∧ Below w.heap.size w w2) := ⟨ho2, hd0.trans hb2⟩; have kq := (hd0.trans hb2).cell (p := ⟨q, 0, none⟩) HQL.out |>.trans hlk; clear ho2 hb2))
    all_goals
      go_wp2
      go_ret
      exact ⟨rfl, HK.out.1, HK.out.2⟩
  · have hh' : has ys who = false := by simpa using hh
    have e : remE ys who = 1 := by simp [remE, hh']
    have ek : kv ys who = -1 := by unfold kv; rw [if_neg hh]
    rw [e, gone_no hh']
    rw [ek] at hK
    clear h hh hh' e ek
    go_enter Tryd.func8, Tryd.ntmps8
    go_wp2_with (first | (go_at_call 22; refine hK.mono ?_; rintro e wx ⟨rfl, rfl⟩))
    go_ret
    exact ⟨rfl, ⟨v, HR.out⟩, Buts.refl _ _⟩
end Go.Proofs.YtmdhlgdikchhlaaDoor
