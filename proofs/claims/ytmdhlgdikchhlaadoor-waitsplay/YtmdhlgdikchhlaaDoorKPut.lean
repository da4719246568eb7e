/- The document's own queue: somebody is put. -/
import Derived.Test.YtmdhlgdikchhlaaDoorKDo
namespace Go.Proofs.YtmdhlgdikchhlaaDoor
open Go Go.RowKit
set_option maxRecDepth 100000
set_option linter.unusedVariables false
set_option linter.unusedSimpArgs false
theorem one_cells (W : World) (z : Int × Int) : ∀ j u, (lks [z])[j]? = some u → (W.alloc (.cells #[.int .i64 z.1, .int .i64 z.2] 66)).cell? ((⟨W.heap.size, 0, none⟩ : Addr).add j) = some u := fun j u hj => by
  rw [addr_add, Nat.zero_add, cell_of (alloc_at W _)]
  rcases j with _ | _ | j
  · exact hj
  · exact hj
  · simp [lks] at hj
theorem nil_forms {B : Nat} {w : World} {v : Value} {ds : List (Int × Int)} (h : OwnS B w v ds) : (v = .slice none 0 0 ∧ ds = []) ∨ ∃ g cap, v = .slice (some ⟨g, 0, none⟩) ds.length cap ∧ ds.length ≤ cap ∧ cap ≤ maxLen := by
  rcases h.2 with ⟨rfl, h0⟩ | ⟨g, cap, cur, rfl, _, _, hc, hm, _⟩
  · exact Or.inl ⟨rfl, List.eq_nil_of_length_eq_zero h0⟩
  · exact Or.inr ⟨g, cap, rfl, hc, hm⟩
set_option maxHeartbeats 8000000 in
theorem kput_any {B : Nat} {w : World} {q : Nat} {ys : List (Int × Int)} (h : KR B w q ys) (hB : B ≤ w.heap.size) (hl : ys.length < 1000) (who r : Int) :
    Calls Tryd.prog 12 #[.pointer (some ⟨q, 0, none⟩), .int .i64 who, .int .i64 r] w fun e w' => e = .returned (.int .i64 (putE ys who r)) ∧ KR B w' q (putL ys who r) ∧ Buts [q] w w' := by
  obtain ⟨v, h⟩ := h
  have HR : Hid (Ref B w q v ys) := h
  have hK := kat_any h who
  by_cases hb : badA who r
  · have e : putE ys who r = 1 := by simp [putE, hb]
    have e2 : putL ys who r = ys := by simp [putL, hb]
    rw [e, e2]
    clear h e e2 hK
    by_cases h1 : who < 0
    · clear hb
      go_enter Tryd.func12, Tryd.ntmps12
      go_wp2
      go_ret
      exact ⟨rfl, ⟨v, HR.out⟩, Buts.refl _ _⟩
    · by_cases h2 : r < 0
      · clear hb
        go_enter Tryd.func12, Tryd.ntmps12
        go_wp2
        go_ret
        exact ⟨rfl, ⟨v, HR.out⟩, Buts.refl _ _⟩
      · have h3 : 31 < r := by unfold badA at hb; omega
        clear hb
        go_enter Tryd.func12, Tryd.ntmps12
        go_wp2
        go_ret
        exact ⟨rfl, ⟨v, HR.out⟩, Buts.refl _ _⟩
  · have p1 : ¬ who < 0 := fun h => hb (Or.inl h)
    have p2 : ¬ r < 0 := fun h => hb (Or.inr (Or.inl h))
    have p3 : ¬ 31 < r := fun h => hb (Or.inr (Or.inr h))
    by_cases hh : has ys who = true
    · have e : putE ys who r = 7 := by simp [putE, hb, hh]
      have e2 : putL ys who r = ys := by simp [putL, hb, hh]
      have ek : kv ys who = (wi ys who : Int) := by unfold kv; rw [if_pos hh]
      rw [e, e2]
      rw [ek] at hK
      have b1 : (0 : Int) ≤ (wi ys who : Int) := by omega
      clear h e e2 ek hh hb
      generalize wi ys who = K at *
      go_enter Tryd.func12, Tryd.ntmps12
      go_wp2_with (first | (go_at_call 22; refine hK.mono ?_; rintro e wx ⟨rfl, rfl⟩))
      go_ret
      exact ⟨rfl, ⟨v, HR.out⟩, Buts.refl _ _⟩
    · have hh' : has ys who = false := by simpa using hh
      have e : putE ys who r = 0 := by simp [putE, hb, hh']
      have e2 : putL ys who r = ys.take (ri ys r) ++ (who, r) :: ys.drop (ri ys r) := by rw [← ins_split ys (who, r)]; simp [putL, hb, hh']
      have ek : kv ys who = -1 := by unfold kv; rw [if_neg hh]
      rw [e, e2]
      rw [ek] at hK
      have HRI : Hid (ri ys r ≤ ys.length) := ri_le ys r
      have HRN : Hid (∀ i, i < ri ys r → r ≤ (ys.getD i (0, 0)).2) := fun i hi => ri_no hi
      have HRY : Hid (ri ys r < ys.length → (ys.getD (ri ys r) (0, 0)).2 < r) := fun h => ri_at h
      clear e e2 ek hh hh' hb
      obtain ⟨K, hKK⟩ : ∃ K, ri ys r = K := ⟨_, rfl⟩
      rw [hKK] at HRI HRN HRY ⊢
      clear hKK
      have hd0 : Below w.heap.size w w.drew := (Below.refl _ w).drew
      have hd1 : Below w.heap.size w (w.alloc (.cells #[.int .i64 who, .int .i64 r] 66)).drew := (alloc_below w _).drew
      have HEND : Hid (∀ sp m c w2, OwnS w.heap.size w2 (.slice sp m c) (ys.take K ++ (who, r) :: ys.drop K) → Below w.heap.size w w2 → w2.cell? ⟨q, 0, none⟩ = some v ∧ w2.frozen? ⟨q, 0, none⟩ = false ∧ KR B (w2.setCell ⟨q, 0, none⟩ (.slice sp m c)) q (ys.take K ++ (who, r) :: ys.drop K) ∧ Buts [q] w (w2.setCell ⟨q, 0, none⟩ (.slice sp m c))) := fun sp m c w2 ho hb => h.lay hB ho hb (by simp; omega)
      have hlk := h.lnk
      have hfp := h.fp 0
      have HQL : Hid (q < w.heap.size) := at_lt h.head
      have hmx : Tryd.prog.follows .mixedOrders = true := by kernel_rfl
      have hql : q < w.heap.size := at_lt h.head
      rcases nil_forms h.own with ⟨hv, hy⟩ | ⟨g, cap, hv, hc1, hc2⟩
      · rw [hv] at hlk HEND
        have hK0 : K = 0 := by have := HRI.out; rw [hy] at this; simpa using this
        subst hK0
        rw [hy] at HEND ⊢
        simp only [List.take_nil, List.drop_nil, List.nil_append] at HEND ⊢
        clear h hv hl HRI HRN HRY
        go_enter Tryd.func12, Tryd.ntmps12
        go_wp2_with (first | (go_at_call 22; refine hK.mono ?_; rintro e wx ⟨rfl, rfl⟩))
        refine wp_loop_rounds 1 ?_
        rw [rounds_succ]
        go_wp2
        refine wp_region_any hmx ?_
        refine wpAny_take (i := 0) (v := ?vn1) rfl (by kernel_rfl) (by kernel_rfl) (by kernel_rfl) (fun _ _ _ h => h) (Or.inl ⟨by rfl, ?hyn1⟩) ?restn1
        case hyn1 => (intro w; go_simp; try with_reducible rfl)
        refine wpAny_take (i := 1) (v := ?vn2) rfl (by kernel_rfl) (by kernel_rfl) (by kernel_rfl) (fun _ _ _ h => h) (Or.inl ⟨by rfl, ?hyn2⟩) ?restn2
        case hyn2 => (intro w; go_simp; try with_reducible rfl)
        refine wpAny_take (i := 2) (v := ?vn3) rfl (by kernel_rfl) (by kernel_rfl) (by kernel_rfl) (fun _ _ _ h => h) (Or.inl ⟨by rfl, ?hyn3⟩) ?restn3
        case hyn3 => (intro w; go_simp; try with_reducible rfl)
        refine wpAny_take (i := 3) (v := ?vn4) rfl (by kernel_rfl) (by kernel_rfl) (by kernel_rfl) (fun _ _ _ h => h) (Or.inl ⟨by rfl, ?hyn4⟩) ?restn4
        case hyn4 => (intro w; go_simp; try with_reducible rfl)
        refine wpAny_take (i := 5) (v := ?vn5) rfl (by kernel_rfl) (by kernel_rfl) (by kernel_rfl) (fun _ _ _ h => h) (Or.inl ⟨by rfl, ?hyn5⟩) ?restn5
        case hyn5 => (intro w; go_simp; try with_reducible rfl)
        refine wpAny_take (i := 8) (v := ?vn6) rfl (by kernel_rfl) (by kernel_rfl) (by kernel_rfl) (fun _ _ _ h => h) (Or.inl ⟨by rfl, ?hyn6⟩) ?restn6
        case hyn6 => (intro w; go_simp; try with_reducible rfl)
        refine wpAny_take (i := 9) (v := ?vn7) rfl (by kernel_rfl) (by kernel_rfl) (by kernel_rfl) (fun _ _ _ h => h) (Or.inl ⟨by rfl, ?hyn7⟩) ?restn7
        case hyn7 => (intro w; go_simp; try with_reducible rfl)
        refine wpAny_take (i := 10) (v := ?vn8) rfl (by kernel_rfl) (by kernel_rfl) (by kernel_rfl) (fun _ _ _ h => h) (Or.inl ⟨by rfl, ?hyn8⟩) ?restn8
        case hyn8 => (intro w; go_simp; try with_reducible rfl)
        refine wpAny_take (i := 13) (v := ?vn9) rfl (by kernel_rfl) (by kernel_rfl) (by kernel_rfl) (fun _ _ _ h => h) (Or.inl ⟨by rfl, ?hyn9⟩) ?restn9
        case hyn9 => (intro w; go_simp; try with_reducible rfl)
        refine wpAny_take (i := 14) (v := ?vn10) rfl (by kernel_rfl) (by kernel_rfl) (by kernel_rfl) (fun _ _ _ h => h) (Or.inl ⟨by rfl, ?hyn10⟩) ?restn10
        case hyn10 => (intro w; go_simp; try with_reducible rfl)
        refine wpAny_take (i := 15) (v := ?vn11) rfl (by kernel_rfl) (by kernel_rfl) (by kernel_rfl) (fun _ _ _ h => h) (Or.inl ⟨by rfl, ?hyn11⟩) ?restn11
        case hyn11 => (intro w; go_simp; try with_reducible rfl)
        refine wpAny_take (i := 17) (v := ?vn12) rfl (by kernel_rfl) (by kernel_rfl) (by kernel_rfl) (fun _ _ _ h => h) (Or.inl ⟨by rfl, ?hyn12⟩) ?restn12
        case hyn12 => (intro w; go_simp; try with_reducible rfl)
        refine wpAny_ready (rs := [4, 11, 16]) (by kernel_rfl) (by simp) ?_
        refine AllReady.cons rfl (fun KK hK => ?_) ?_
        · go_simp; refine hK _ _ ?_; clear hK KK
          refine wpAny_take (i := 6) (v := ?vn13) rfl (by kernel_rfl) (by kernel_rfl) (by kernel_rfl) (fun _ _ _ h => h) (Or.inl ⟨by rfl, ?hyn13⟩) ?restn13
          case hyn13 => (intro w; go_simp; try with_reducible rfl)
          refine wpAny_ready (rs := [7, 11, 16]) (by kernel_rfl) (by simp) ?_
          refine AllReady.cons rfl (fun KK hK => ?_) ?_
          · go_simp; refine hK _ _ ?_; clear hK KK
            refine wpAny_ready (rs := [11, 16]) (by kernel_rfl) (by simp) ?_
            refine AllReady.cons rfl (fun KK hK => ?_) ?_
            · go_simp; refine hK _ _ ?_; clear hK KK
              refine wpAny_ready (rs := [12, 16]) (by kernel_rfl) (by simp) ?_
              refine AllReady.cons rfl (fun KK hK => ?_) ?_
              · refine step_srow rfl (.tmp 50) (.tmp 54) rfl w.heap.size (.slice none 0 0) [] [(who, r)] (by go_simp) (World.ownsRow_nil _ _ _ _) ⟨w.heap.size, 0, none⟩ 1 1 (by go_simp) rfl (by decide) (one_cells w (who, r)) hd1.size ?_; intro s3 n3 c3 w3 ho3 hb3 _; obtain ⟨g3, c3', e3, hc3, _⟩ := ho3.spot (by simp); simp only [Value.slice.injEq] at e3; obtain ⟨hs3, hn3, hcc⟩ := e3; subst hs3; have hn4 : n3 = 1 := hn3; subst hn4; have hc4 : 1 ≤ c3 := (by rw [hcc]; simpa using hc3); clear hn3 hcc hc3; obtain ⟨q3, f3, k3, b3⟩ := HEND.out _ 1 c3 w3 ho3 (hd1.trans hb3); have HK : Hid (KR B (w3.setCell ⟨q, 0, none⟩ (.slice (some ⟨g3, 0, none⟩) 1 c3)) q [(who, r)] ∧ Buts [q] w (w3.setCell ⟨q, 0, none⟩ (.slice (some ⟨g3, 0, none⟩) 1 c3))) := ⟨k3, b3⟩; clear k3 b3 ho3 hb3; go_simp; refine hK _ _ ?_; clear hK KK
                refine wpAny_ready (rs := [16]) (by kernel_rfl) (by simp) ?_
                refine AllReady.cons rfl (fun KK hK => ?_) AllReady.nil
                go_simp; refine hK _ _ ?_; clear hK KK
                refine wpAny_take (i := 18) (v := ?vn14) rfl (by kernel_rfl) (by kernel_rfl) (by kernel_rfl) (fun _ _ _ h => h) (Or.inl ⟨by rfl, ?hyn14⟩) ?restn14
                case hyn14 => (intro w; go_simp; try with_reducible rfl)
                refine wpAny_ready (rs := [19]) (by kernel_rfl) (by simp) ?_
                refine AllReady.cons rfl (fun KK hK => ?_) AllReady.nil
                go_simp; refine hK _ _ ?_; clear hK KK
                refine wpAny_take (i := 20) (v := ?vn15) rfl (by kernel_rfl) (by kernel_rfl) (by kernel_rfl) (fun _ _ _ h => h) (Or.inl ⟨by rfl, ?hyn15⟩) ?restn15
                case hyn15 => (intro w; go_simp; try with_reducible rfl)
                refine wpAny_take (i := 21) (v := ?vn16) rfl (by kernel_rfl) (by kernel_rfl) (by kernel_rfl) (fun _ _ _ h => h) (Or.inl ⟨by rfl, ?hyn16⟩) ?restn16
                case hyn16 => (intro w; go_simp; try with_reducible rfl)
                refine wpAny_ready (rs := [22]) (by kernel_rfl) (by simp) ?_
                refine AllReady.cons rfl (fun KK hK => ?_) AllReady.nil
                go_simp; refine hK _ _ ?_; clear hK KK
                refine wpAny_done (by kernel_rfl) ?_ _
                go_simp
                go_wp2
                go_ret
                exact ⟨rfl, HK.out.1, HK.out.2⟩
              refine AllReady.cons rfl (fun KK hK => ?_) AllReady.nil
              go_simp; refine hK _ _ ?_; clear hK KK
              refine wpAny_take (i := 18) (v := ?vn17) rfl (by kernel_rfl) (by kernel_rfl) (by kernel_rfl) (fun _ _ _ h => h) (Or.inl ⟨by rfl, ?hyn17⟩) ?restn17
              case hyn17 => (intro w; go_simp; try with_reducible rfl)
              refine wpAny_ready (rs := [12]) (by kernel_rfl) (by simp) ?_
              refine AllReady.cons rfl (fun KK hK => ?_) AllReady.nil
              refine step_srow rfl (.tmp 50) (.tmp 54) rfl w.heap.size (.slice none 0 0) [] [(who, r)] (by go_simp) (World.ownsRow_nil _ _ _ _) ⟨w.heap.size, 0, none⟩ 1 1 (by go_simp) rfl (by decide) (one_cells w (who, r)) hd1.size ?_; intro s3 n3 c3 w3 ho3 hb3 _; obtain ⟨g3, c3', e3, hc3, _⟩ := ho3.spot (by simp); simp only [Value.slice.injEq] at e3; obtain ⟨hs3, hn3, hcc⟩ := e3; subst hs3; have hn4 : n3 = 1 := hn3; subst hn4; have hc4 : 1 ≤ c3 := (by rw [hcc]; simpa using hc3); clear hn3 hcc hc3; obtain ⟨q3, f3, k3, b3⟩ := HEND.out _ 1 c3 w3 ho3 (hd1.trans hb3); have HK : Hid (KR B (w3.setCell ⟨q, 0, none⟩ (.slice (some ⟨g3, 0, none⟩) 1 c3)) q [(who, r)] ∧ Buts [q] w (w3.setCell ⟨q, 0, none⟩ (.slice (some ⟨g3, 0, none⟩) 1 c3))) := ⟨k3, b3⟩; clear k3 b3 ho3 hb3; go_simp; refine hK _ _ ?_; clear hK KK
              refine wpAny_ready (rs := [19]) (by kernel_rfl) (by simp) ?_
              refine AllReady.cons rfl (fun KK hK => ?_) AllReady.nil
              go_simp; refine hK _ _ ?_; clear hK KK
              refine wpAny_take (i := 20) (v := ?vn18) rfl (by kernel_rfl) (by kernel_rfl) (by kernel_rfl) (fun _ _ _ h => h) (Or.inl ⟨by rfl, ?hyn18⟩) ?restn18
              case hyn18 => (intro w; go_simp; try with_reducible rfl)
              refine wpAny_take (i := 21) (v := ?vn19) rfl (by kernel_rfl) (by kernel_rfl) (by kernel_rfl) (fun _ _ _ h => h) (Or.inl ⟨by rfl, ?hyn19⟩) ?restn19
              case hyn19 => (intro w; go_simp; try with_reducible rfl)
              refine wpAny_ready (rs := [22]) (by kernel_rfl) (by simp) ?_
              refine AllReady.cons rfl (fun KK hK => ?_) AllReady.nil
              go_simp; refine hK _ _ ?_; clear hK KK
              refine wpAny_done (by kernel_rfl) ?_ _
              go_simp
              go_wp2
              go_ret
              exact ⟨rfl, HK.out.1, HK.out.2⟩
            refine AllReady.cons rfl (fun KK hK => ?_) AllReady.nil
            go_simp; refine hK _ _ ?_; clear hK KK
            refine wpAny_take (i := 18) (v := ?vn20) rfl (by kernel_rfl) (by kernel_rfl) (by kernel_rfl) (fun _ _ _ h => h) (Or.inl ⟨by rfl, ?hyn20⟩) ?restn20
            case hyn20 => (intro w; go_simp; try with_reducible rfl)
            refine wpAny_ready (rs := [11]) (by kernel_rfl) (by simp) ?_
            refine AllReady.cons rfl (fun KK hK => ?_) AllReady.nil
            go_simp; refine hK _ _ ?_; clear hK KK
            refine wpAny_ready (rs := [12]) (by kernel_rfl) (by simp) ?_
            refine AllReady.cons rfl (fun KK hK => ?_) AllReady.nil
            refine step_srow rfl (.tmp 50) (.tmp 54) rfl w.heap.size (.slice none 0 0) [] [(who, r)] (by go_simp) (World.ownsRow_nil _ _ _ _) ⟨w.heap.size, 0, none⟩ 1 1 (by go_simp) rfl (by decide) (one_cells w (who, r)) hd1.size ?_; intro s3 n3 c3 w3 ho3 hb3 _; obtain ⟨g3, c3', e3, hc3, _⟩ := ho3.spot (by simp); simp only [Value.slice.injEq] at e3; obtain ⟨hs3, hn3, hcc⟩ := e3; subst hs3; have hn4 : n3 = 1 := hn3; subst hn4; have hc4 : 1 ≤ c3 := (by rw [hcc]; simpa using hc3); clear hn3 hcc hc3; obtain ⟨q3, f3, k3, b3⟩ := HEND.out _ 1 c3 w3 ho3 (hd1.trans hb3); have HK : Hid (KR B (w3.setCell ⟨q, 0, none⟩ (.slice (some ⟨g3, 0, none⟩) 1 c3)) q [(who, r)] ∧ Buts [q] w (w3.setCell ⟨q, 0, none⟩ (.slice (some ⟨g3, 0, none⟩) 1 c3))) := ⟨k3, b3⟩; clear k3 b3 ho3 hb3; go_simp; refine hK _ _ ?_; clear hK KK
            refine wpAny_ready (rs := [19]) (by kernel_rfl) (by simp) ?_
            refine AllReady.cons rfl (fun KK hK => ?_) AllReady.nil
            go_simp; refine hK _ _ ?_; clear hK KK
            refine wpAny_take (i := 20) (v := ?vn21) rfl (by kernel_rfl) (by kernel_rfl) (by kernel_rfl) (fun _ _ _ h => h) (Or.inl ⟨by rfl, ?hyn21⟩) ?restn21
            case hyn21 => (intro w; go_simp; try with_reducible rfl)
            refine wpAny_take (i := 21) (v := ?vn22) rfl (by kernel_rfl) (by kernel_rfl) (by kernel_rfl) (fun _ _ _ h => h) (Or.inl ⟨by rfl, ?hyn22⟩) ?restn22
            case hyn22 => (intro w; go_simp; try with_reducible rfl)
            refine wpAny_ready (rs := [22]) (by kernel_rfl) (by simp) ?_
            refine AllReady.cons rfl (fun KK hK => ?_) AllReady.nil
            go_simp; refine hK _ _ ?_; clear hK KK
            refine wpAny_done (by kernel_rfl) ?_ _
            go_simp
            go_wp2
            go_ret
            exact ⟨rfl, HK.out.1, HK.out.2⟩
          refine AllReady.cons rfl (fun KK hK => ?_) ?_
          · go_simp; refine hK _ _ ?_; clear hK KK
            refine wpAny_ready (rs := [7, 16]) (by kernel_rfl) (by simp) ?_
            refine AllReady.cons rfl (fun KK hK => ?_) ?_
            · go_simp; refine hK _ _ ?_; clear hK KK
              refine wpAny_ready (rs := [12, 16]) (by kernel_rfl) (by simp) ?_
              refine AllReady.cons rfl (fun KK hK => ?_) ?_
              · refine step_srow rfl (.tmp 50) (.tmp 54) rfl w.heap.size (.slice none 0 0) [] [(who, r)] (by go_simp) (World.ownsRow_nil _ _ _ _) ⟨w.heap.size, 0, none⟩ 1 1 (by go_simp) rfl (by decide) (one_cells w (who, r)) hd1.size ?_; intro s3 n3 c3 w3 ho3 hb3 _; obtain ⟨g3, c3', e3, hc3, _⟩ := ho3.spot (by simp); simp only [Value.slice.injEq] at e3; obtain ⟨hs3, hn3, hcc⟩ := e3; subst hs3; have hn4 : n3 = 1 := hn3; subst hn4; have hc4 : 1 ≤ c3 := (by rw [hcc]; simpa using hc3); clear hn3 hcc hc3; obtain ⟨q3, f3, k3, b3⟩ := HEND.out _ 1 c3 w3 ho3 (hd1.trans hb3); have HK : Hid (KR B (w3.setCell ⟨q, 0, none⟩ (.slice (some ⟨g3, 0, none⟩) 1 c3)) q [(who, r)] ∧ Buts [q] w (w3.setCell ⟨q, 0, none⟩ (.slice (some ⟨g3, 0, none⟩) 1 c3))) := ⟨k3, b3⟩; clear k3 b3 ho3 hb3; go_simp; refine hK _ _ ?_; clear hK KK
                refine wpAny_ready (rs := [16]) (by kernel_rfl) (by simp) ?_
                refine AllReady.cons rfl (fun KK hK => ?_) AllReady.nil
                go_simp; refine hK _ _ ?_; clear hK KK
                refine wpAny_take (i := 18) (v := ?vn23) rfl (by kernel_rfl) (by kernel_rfl) (by kernel_rfl) (fun _ _ _ h => h) (Or.inl ⟨by rfl, ?hyn23⟩) ?restn23
                case hyn23 => (intro w; go_simp; try with_reducible rfl)
                refine wpAny_ready (rs := [19]) (by kernel_rfl) (by simp) ?_
                refine AllReady.cons rfl (fun KK hK => ?_) AllReady.nil
                go_simp; refine hK _ _ ?_; clear hK KK
                refine wpAny_take (i := 20) (v := ?vn24) rfl (by kernel_rfl) (by kernel_rfl) (by kernel_rfl) (fun _ _ _ h => h) (Or.inl ⟨by rfl, ?hyn24⟩) ?restn24
                case hyn24 => (intro w; go_simp; try with_reducible rfl)
                refine wpAny_take (i := 21) (v := ?vn25) rfl (by kernel_rfl) (by kernel_rfl) (by kernel_rfl) (fun _ _ _ h => h) (Or.inl ⟨by rfl, ?hyn25⟩) ?restn25
                case hyn25 => (intro w; go_simp; try with_reducible rfl)
                refine wpAny_ready (rs := [22]) (by kernel_rfl) (by simp) ?_
                refine AllReady.cons rfl (fun KK hK => ?_) AllReady.nil
                go_simp; refine hK _ _ ?_; clear hK KK
                refine wpAny_done (by kernel_rfl) ?_ _
                go_simp
                go_wp2
                go_ret
                exact ⟨rfl, HK.out.1, HK.out.2⟩
              refine AllReady.cons rfl (fun KK hK => ?_) AllReady.nil
              go_simp; refine hK _ _ ?_; clear hK KK
              refine wpAny_take (i := 18) (v := ?vn26) rfl (by kernel_rfl) (by kernel_rfl) (by kernel_rfl) (fun _ _ _ h => h) (Or.inl ⟨by rfl, ?hyn26⟩) ?restn26
              case hyn26 => (intro w; go_simp; try with_reducible rfl)
              refine wpAny_ready (rs := [12]) (by kernel_rfl) (by simp) ?_
              refine AllReady.cons rfl (fun KK hK => ?_) AllReady.nil
              refine step_srow rfl (.tmp 50) (.tmp 54) rfl w.heap.size (.slice none 0 0) [] [(who, r)] (by go_simp) (World.ownsRow_nil _ _ _ _) ⟨w.heap.size, 0, none⟩ 1 1 (by go_simp) rfl (by decide) (one_cells w (who, r)) hd1.size ?_; intro s3 n3 c3 w3 ho3 hb3 _; obtain ⟨g3, c3', e3, hc3, _⟩ := ho3.spot (by simp); simp only [Value.slice.injEq] at e3; obtain ⟨hs3, hn3, hcc⟩ := e3; subst hs3; have hn4 : n3 = 1 := hn3; subst hn4; have hc4 : 1 ≤ c3 := (by rw [hcc]; simpa using hc3); clear hn3 hcc hc3; obtain ⟨q3, f3, k3, b3⟩ := HEND.out _ 1 c3 w3 ho3 (hd1.trans hb3); have HK : Hid (KR B (w3.setCell ⟨q, 0, none⟩ (.slice (some ⟨g3, 0, none⟩) 1 c3)) q [(who, r)] ∧ Buts [q] w (w3.setCell ⟨q, 0, none⟩ (.slice (some ⟨g3, 0, none⟩) 1 c3))) := ⟨k3, b3⟩; clear k3 b3 ho3 hb3; go_simp; refine hK _ _ ?_; clear hK KK
              refine wpAny_ready (rs := [19]) (by kernel_rfl) (by simp) ?_
              refine AllReady.cons rfl (fun KK hK => ?_) AllReady.nil
              go_simp; refine hK _ _ ?_; clear hK KK
              refine wpAny_take (i := 20) (v := ?vn27) rfl (by kernel_rfl) (by kernel_rfl) (by kernel_rfl) (fun _ _ _ h => h) (Or.inl ⟨by rfl, ?hyn27⟩) ?restn27
              case hyn27 => (intro w; go_simp; try with_reducible rfl)
              refine wpAny_take (i := 21) (v := ?vn28) rfl (by kernel_rfl) (by kernel_rfl) (by kernel_rfl) (fun _ _ _ h => h) (Or.inl ⟨by rfl, ?hyn28⟩) ?restn28
              case hyn28 => (intro w; go_simp; try with_reducible rfl)
              refine wpAny_ready (rs := [22]) (by kernel_rfl) (by simp) ?_
              refine AllReady.cons rfl (fun KK hK => ?_) AllReady.nil
              go_simp; refine hK _ _ ?_; clear hK KK
              refine wpAny_done (by kernel_rfl) ?_ _
              go_simp
              go_wp2
              go_ret
              exact ⟨rfl, HK.out.1, HK.out.2⟩
            refine AllReady.cons rfl (fun KK hK => ?_) AllReady.nil
            go_simp; refine hK _ _ ?_; clear hK KK
            refine wpAny_take (i := 18) (v := ?vn29) rfl (by kernel_rfl) (by kernel_rfl) (by kernel_rfl) (fun _ _ _ h => h) (Or.inl ⟨by rfl, ?hyn29⟩) ?restn29
            case hyn29 => (intro w; go_simp; try with_reducible rfl)
            refine wpAny_ready (rs := [7]) (by kernel_rfl) (by simp) ?_
            refine AllReady.cons rfl (fun KK hK => ?_) AllReady.nil
            go_simp; refine hK _ _ ?_; clear hK KK
            refine wpAny_ready (rs := [12]) (by kernel_rfl) (by simp) ?_
            refine AllReady.cons rfl (fun KK hK => ?_) AllReady.nil
            refine step_srow rfl (.tmp 50) (.tmp 54) rfl w.heap.size (.slice none 0 0) [] [(who, r)] (by go_simp) (World.ownsRow_nil _ _ _ _) ⟨w.heap.size, 0, none⟩ 1 1 (by go_simp) rfl (by decide) (one_cells w (who, r)) hd1.size ?_; intro s3 n3 c3 w3 ho3 hb3 _; obtain ⟨g3, c3', e3, hc3, _⟩ := ho3.spot (by simp); simp only [Value.slice.injEq] at e3; obtain ⟨hs3, hn3, hcc⟩ := e3; subst hs3; have hn4 : n3 = 1 := hn3; subst hn4; have hc4 : 1 ≤ c3 := (by rw [hcc]; simpa using hc3); clear hn3 hcc hc3; obtain ⟨q3, f3, k3, b3⟩ := HEND.out _ 1 c3 w3 ho3 (hd1.trans hb3); have HK : Hid (KR B (w3.setCell ⟨q, 0, none⟩ (.slice (some ⟨g3, 0, none⟩) 1 c3)) q [(who, r)] ∧ Buts [q] w (w3.setCell ⟨q, 0, none⟩ (.slice (some ⟨g3, 0, none⟩) 1 c3))) := ⟨k3, b3⟩; clear k3 b3 ho3 hb3; go_simp; refine hK _ _ ?_; clear hK KK
            refine wpAny_ready (rs := [19]) (by kernel_rfl) (by simp) ?_
            refine AllReady.cons rfl (fun KK hK => ?_) AllReady.nil
            go_simp; refine hK _ _ ?_; clear hK KK
            refine wpAny_take (i := 20) (v := ?vn30) rfl (by kernel_rfl) (by kernel_rfl) (by kernel_rfl) (fun _ _ _ h => h) (Or.inl ⟨by rfl, ?hyn30⟩) ?restn30
            case hyn30 => (intro w; go_simp; try with_reducible rfl)
            refine wpAny_take (i := 21) (v := ?vn31) rfl (by kernel_rfl) (by kernel_rfl) (by kernel_rfl) (fun _ _ _ h => h) (Or.inl ⟨by rfl, ?hyn31⟩) ?restn31
            case hyn31 => (intro w; go_simp; try with_reducible rfl)
            refine wpAny_ready (rs := [22]) (by kernel_rfl) (by simp) ?_
            refine AllReady.cons rfl (fun KK hK => ?_) AllReady.nil
            go_simp; refine hK _ _ ?_; clear hK KK
            refine wpAny_done (by kernel_rfl) ?_ _
            go_simp
            go_wp2
            go_ret
            exact ⟨rfl, HK.out.1, HK.out.2⟩
          refine AllReady.cons rfl (fun KK hK => ?_) AllReady.nil
          go_simp; refine hK _ _ ?_; clear hK KK
          refine wpAny_take (i := 18) (v := ?vn32) rfl (by kernel_rfl) (by kernel_rfl) (by kernel_rfl) (fun _ _ _ h => h) (Or.inl ⟨by rfl, ?hyn32⟩) ?restn32
          case hyn32 => (intro w; go_simp; try with_reducible rfl)
          refine wpAny_ready (rs := [7, 11]) (by kernel_rfl) (by simp) ?_
          refine AllReady.cons rfl (fun KK hK => ?_) ?_
          · go_simp; refine hK _ _ ?_; clear hK KK
            refine wpAny_ready (rs := [11]) (by kernel_rfl) (by simp) ?_
            refine AllReady.cons rfl (fun KK hK => ?_) AllReady.nil
            go_simp; refine hK _ _ ?_; clear hK KK
            refine wpAny_ready (rs := [12]) (by kernel_rfl) (by simp) ?_
            refine AllReady.cons rfl (fun KK hK => ?_) AllReady.nil
            refine step_srow rfl (.tmp 50) (.tmp 54) rfl w.heap.size (.slice none 0 0) [] [(who, r)] (by go_simp) (World.ownsRow_nil _ _ _ _) ⟨w.heap.size, 0, none⟩ 1 1 (by go_simp) rfl (by decide) (one_cells w (who, r)) hd1.size ?_; intro s3 n3 c3 w3 ho3 hb3 _; obtain ⟨g3, c3', e3, hc3, _⟩ := ho3.spot (by simp); simp only [Value.slice.injEq] at e3; obtain ⟨hs3, hn3, hcc⟩ := e3; subst hs3; have hn4 : n3 = 1 := hn3; subst hn4; have hc4 : 1 ≤ c3 := (by rw [hcc]; simpa using hc3); clear hn3 hcc hc3; obtain ⟨q3, f3, k3, b3⟩ := HEND.out _ 1 c3 w3 ho3 (hd1.trans hb3); have HK : Hid (KR B (w3.setCell ⟨q, 0, none⟩ (.slice (some ⟨g3, 0, none⟩) 1 c3)) q [(who, r)] ∧ Buts [q] w (w3.setCell ⟨q, 0, none⟩ (.slice (some ⟨g3, 0, none⟩) 1 c3))) := ⟨k3, b3⟩; clear k3 b3 ho3 hb3; go_simp; refine hK _ _ ?_; clear hK KK
            refine wpAny_ready (rs := [19]) (by kernel_rfl) (by simp) ?_
            refine AllReady.cons rfl (fun KK hK => ?_) AllReady.nil
            go_simp; refine hK _ _ ?_; clear hK KK
            refine wpAny_take (i := 20) (v := ?vn33) rfl (by kernel_rfl) (by kernel_rfl) (by kernel_rfl) (fun _ _ _ h => h) (Or.inl ⟨by rfl, ?hyn33⟩) ?restn33
            case hyn33 => (intro w; go_simp; try with_reducible rfl)
            refine wpAny_take (i := 21) (v := ?vn34) rfl (by kernel_rfl) (by kernel_rfl) (by kernel_rfl) (fun _ _ _ h => h) (Or.inl ⟨by rfl, ?hyn34⟩) ?restn34
            case hyn34 => (intro w; go_simp; try with_reducible rfl)
            refine wpAny_ready (rs := [22]) (by kernel_rfl) (by simp) ?_
            refine AllReady.cons rfl (fun KK hK => ?_) AllReady.nil
            go_simp; refine hK _ _ ?_; clear hK KK
            refine wpAny_done (by kernel_rfl) ?_ _
            go_simp
            go_wp2
            go_ret
            exact ⟨rfl, HK.out.1, HK.out.2⟩
          refine AllReady.cons rfl (fun KK hK => ?_) AllReady.nil
          go_simp; refine hK _ _ ?_; clear hK KK
          refine wpAny_ready (rs := [7]) (by kernel_rfl) (by simp) ?_
          refine AllReady.cons rfl (fun KK hK => ?_) AllReady.nil
          go_simp; refine hK _ _ ?_; clear hK KK
          refine wpAny_ready (rs := [12]) (by kernel_rfl) (by simp) ?_
          refine AllReady.cons rfl (fun KK hK => ?_) AllReady.nil
          refine step_srow rfl (.tmp 50) (.tmp 54) rfl w.heap.size (.slice none 0 0) [] [(who, r)] (by go_simp) (World.ownsRow_nil _ _ _ _) ⟨w.heap.size, 0, none⟩ 1 1 (by go_simp) rfl (by decide) (one_cells w (who, r)) hd1.size ?_; intro s3 n3 c3 w3 ho3 hb3 _; obtain ⟨g3, c3', e3, hc3, _⟩ := ho3.spot (by simp); simp only [Value.slice.injEq] at e3; obtain ⟨hs3, hn3, hcc⟩ := e3; subst hs3; have hn4 : n3 = 1 := hn3; subst hn4; have hc4 : 1 ≤ c3 := (by rw [hcc]; simpa using hc3); clear hn3 hcc hc3; obtain ⟨q3, f3, k3, b3⟩ := HEND.out _ 1 c3 w3 ho3 (hd1.trans hb3); have HK : Hid (KR B (w3.setCell ⟨q, 0, none⟩ (.slice (some ⟨g3, 0, none⟩) 1 c3)) q [(who, r)] ∧ Buts [q] w (w3.setCell ⟨q, 0, none⟩ (.slice (some ⟨g3, 0, none⟩) 1 c3))) := ⟨k3, b3⟩; clear k3 b3 ho3 hb3; go_simp; refine hK _ _ ?_; clear hK KK
          refine wpAny_ready (rs := [19]) (by kernel_rfl) (by simp) ?_
          refine AllReady.cons rfl (fun KK hK => ?_) AllReady.nil
          go_simp; refine hK _ _ ?_; clear hK KK
          refine wpAny_take (i := 20) (v := ?vn35) rfl (by kernel_rfl) (by kernel_rfl) (by kernel_rfl) (fun _ _ _ h => h) (Or.inl ⟨by rfl, ?hyn35⟩) ?restn35
          case hyn35 => (intro w; go_simp; try with_reducible rfl)
          refine wpAny_take (i := 21) (v := ?vn36) rfl (by kernel_rfl) (by kernel_rfl) (by kernel_rfl) (fun _ _ _ h => h) (Or.inl ⟨by rfl, ?hyn36⟩) ?restn36
          case hyn36 => (intro w; go_simp; try with_reducible rfl)
          refine wpAny_ready (rs := [22]) (by kernel_rfl) (by simp) ?_
          refine AllReady.cons rfl (fun KK hK => ?_) AllReady.nil
          go_simp; refine hK _ _ ?_; clear hK KK
          refine wpAny_done (by kernel_rfl) ?_ _
          go_simp
          go_wp2
          go_ret
          exact ⟨rfl, HK.out.1, HK.out.2⟩
        refine AllReady.cons rfl (fun KK hK => ?_) ?_
        · go_simp; refine hK _ _ ?_; clear hK KK
          refine wpAny_ready (rs := [4, 16]) (by kernel_rfl) (by simp) ?_
          refine AllReady.cons rfl (fun KK hK => ?_) ?_
          · go_simp; refine hK _ _ ?_; clear hK KK
            refine wpAny_take (i := 6) (v := ?vn37) rfl (by kernel_rfl) (by kernel_rfl) (by kernel_rfl) (fun _ _ _ h => h) (Or.inl ⟨by rfl, ?hyn37⟩) ?restn37
            case hyn37 => (intro w; go_simp; try with_reducible rfl)
            refine wpAny_ready (rs := [7, 16]) (by kernel_rfl) (by simp) ?_
            refine AllReady.cons rfl (fun KK hK => ?_) ?_
            · go_simp; refine hK _ _ ?_; clear hK KK
              refine wpAny_ready (rs := [12, 16]) (by kernel_rfl) (by simp) ?_
              refine AllReady.cons rfl (fun KK hK => ?_) ?_
              · refine step_srow rfl (.tmp 50) (.tmp 54) rfl w.heap.size (.slice none 0 0) [] [(who, r)] (by go_simp) (World.ownsRow_nil _ _ _ _) ⟨w.heap.size, 0, none⟩ 1 1 (by go_simp) rfl (by decide) (one_cells w (who, r)) hd1.size ?_; intro s3 n3 c3 w3 ho3 hb3 _; obtain ⟨g3, c3', e3, hc3, _⟩ := ho3.spot (by simp); simp only [Value.slice.injEq] at e3; obtain ⟨hs3, hn3, hcc⟩ := e3; subst hs3; have hn4 : n3 = 1 := hn3; subst hn4; have hc4 : 1 ≤ c3 := (by rw [hcc]; simpa using hc3); clear hn3 hcc hc3; obtain ⟨q3, f3, k3, b3⟩ := HEND.out _ 1 c3 w3 ho3 (hd1.trans hb3); have HK : Hid (KR B (w3.setCell ⟨q, 0, none⟩ (.slice (some ⟨g3, 0, none⟩) 1 c3)) q [(who, r)] ∧ Buts [q] w (w3.setCell ⟨q, 0, none⟩ (.slice (some ⟨g3, 0, none⟩) 1 c3))) := ⟨k3, b3⟩; clear k3 b3 ho3 hb3; go_simp; refine hK _ _ ?_; clear hK KK
                refine wpAny_ready (rs := [16]) (by kernel_rfl) (by simp) ?_
                refine AllReady.cons rfl (fun KK hK => ?_) AllReady.nil
                go_simp; refine hK _ _ ?_; clear hK KK
                refine wpAny_take (i := 18) (v := ?vn38) rfl (by kernel_rfl) (by kernel_rfl) (by kernel_rfl) (fun _ _ _ h => h) (Or.inl ⟨by rfl, ?hyn38⟩) ?restn38
                case hyn38 => (intro w; go_simp; try with_reducible rfl)
                refine wpAny_ready (rs := [19]) (by kernel_rfl) (by simp) ?_
                refine AllReady.cons rfl (fun KK hK => ?_) AllReady.nil
                go_simp; refine hK _ _ ?_; clear hK KK
                refine wpAny_take (i := 20) (v := ?vn39) rfl (by kernel_rfl) (by kernel_rfl) (by kernel_rfl) (fun _ _ _ h => h) (Or.inl ⟨by rfl, ?hyn39⟩) ?restn39
                case hyn39 => (intro w; go_simp; try with_reducible rfl)
                refine wpAny_take (i := 21) (v := ?vn40) rfl (by kernel_rfl) (by kernel_rfl) (by kernel_rfl) (fun _ _ _ h => h) (Or.inl ⟨by rfl, ?hyn40⟩) ?restn40
                case hyn40 => (intro w; go_simp; try with_reducible rfl)
                refine wpAny_ready (rs := [22]) (by kernel_rfl) (by simp) ?_
                refine AllReady.cons rfl (fun KK hK => ?_) AllReady.nil
                go_simp; refine hK _ _ ?_; clear hK KK
                refine wpAny_done (by kernel_rfl) ?_ _
                go_simp
                go_wp2
                go_ret
                exact ⟨rfl, HK.out.1, HK.out.2⟩
              refine AllReady.cons rfl (fun KK hK => ?_) AllReady.nil
              go_simp; refine hK _ _ ?_; clear hK KK
              refine wpAny_take (i := 18) (v := ?vn41) rfl (by kernel_rfl) (by kernel_rfl) (by kernel_rfl) (fun _ _ _ h => h) (Or.inl ⟨by rfl, ?hyn41⟩) ?restn41
              case hyn41 => (intro w; go_simp; try with_reducible rfl)
              refine wpAny_ready (rs := [12]) (by kernel_rfl) (by simp) ?_
              refine AllReady.cons rfl (fun KK hK => ?_) AllReady.nil
              refine step_srow rfl (.tmp 50) (.tmp 54) rfl w.heap.size (.slice none 0 0) [] [(who, r)] (by go_simp) (World.ownsRow_nil _ _ _ _) ⟨w.heap.size, 0, none⟩ 1 1 (by go_simp) rfl (by decide) (one_cells w (who, r)) hd1.size ?_; intro s3 n3 c3 w3 ho3 hb3 _; obtain ⟨g3, c3', e3, hc3, _⟩ := ho3.spot (by simp); simp only [Value.slice.injEq] at e3; obtain ⟨hs3, hn3, hcc⟩ := e3; subst hs3; have hn4 : n3 = 1 := hn3; subst hn4; have hc4 : 1 ≤ c3 := (by rw [hcc]; simpa using hc3); clear hn3 hcc hc3; obtain ⟨q3, f3, k3, b3⟩ := HEND.out _ 1 c3 w3 ho3 (hd1.trans hb3); have HK : Hid (KR B (w3.setCell ⟨q, 0, none⟩ (.slice (some ⟨g3, 0, none⟩) 1 c3)) q [(who, r)] ∧ Buts [q] w (w3.setCell ⟨q, 0, none⟩ (.slice (some ⟨g3, 0, none⟩) 1 c3))) := ⟨k3, b3⟩; clear k3 b3 ho3 hb3; go_simp; refine hK _ _ ?_; clear hK KK
              refine wpAny_ready (rs := [19]) (by kernel_rfl) (by simp) ?_
              refine AllReady.cons rfl (fun KK hK => ?_) AllReady.nil
              go_simp; refine hK _ _ ?_; clear hK KK
              refine wpAny_take (i := 20) (v := ?vn42) rfl (by kernel_rfl) (by kernel_rfl) (by kernel_rfl) (fun _ _ _ h => h) (Or.inl ⟨by rfl, ?hyn42⟩) ?restn42
              case hyn42 => (intro w; go_simp; try with_reducible rfl)
              refine wpAny_take (i := 21) (v := ?vn43) rfl (by kernel_rfl) (by kernel_rfl) (by kernel_rfl) (fun _ _ _ h => h) (Or.inl ⟨by rfl, ?hyn43⟩) ?restn43
              case hyn43 => (intro w; go_simp; try with_reducible rfl)
              refine wpAny_ready (rs := [22]) (by kernel_rfl) (by simp) ?_
              refine AllReady.cons rfl (fun KK hK => ?_) AllReady.nil
              go_simp; refine hK _ _ ?_; clear hK KK
              refine wpAny_done (by kernel_rfl) ?_ _
              go_simp
              go_wp2
              go_ret
              exact ⟨rfl, HK.out.1, HK.out.2⟩
            refine AllReady.cons rfl (fun KK hK => ?_) AllReady.nil
            go_simp; refine hK _ _ ?_; clear hK KK
            refine wpAny_take (i := 18) (v := ?vn44) rfl (by kernel_rfl) (by kernel_rfl) (by kernel_rfl) (fun _ _ _ h => h) (Or.inl ⟨by rfl, ?hyn44⟩) ?restn44
            case hyn44 => (intro w; go_simp; try with_reducible rfl)
            refine wpAny_ready (rs := [7]) (by kernel_rfl) (by simp) ?_
            refine AllReady.cons rfl (fun KK hK => ?_) AllReady.nil
            go_simp; refine hK _ _ ?_; clear hK KK
            refine wpAny_ready (rs := [12]) (by kernel_rfl) (by simp) ?_
            refine AllReady.cons rfl (fun KK hK => ?_) AllReady.nil
            refine step_srow rfl (.tmp 50) (.tmp 54) rfl w.heap.size (.slice none 0 0) [] [(who, r)] (by go_simp) (World.ownsRow_nil _ _ _ _) ⟨w.heap.size, 0, none⟩ 1 1 (by go_simp) rfl (by decide) (one_cells w (who, r)) hd1.size ?_; intro s3 n3 c3 w3 ho3 hb3 _; obtain ⟨g3, c3', e3, hc3, _⟩ := ho3.spot (by simp); simp only [Value.slice.injEq] at e3; obtain ⟨hs3, hn3, hcc⟩ := e3; subst hs3; have hn4 : n3 = 1 := hn3; subst hn4; have hc4 : 1 ≤ c3 := (by rw [hcc]; simpa using hc3); clear hn3 hcc hc3; obtain ⟨q3, f3, k3, b3⟩ := HEND.out _ 1 c3 w3 ho3 (hd1.trans hb3); have HK : Hid (KR B (w3.setCell ⟨q, 0, none⟩ (.slice (some ⟨g3, 0, none⟩) 1 c3)) q [(who, r)] ∧ Buts [q] w (w3.setCell ⟨q, 0, none⟩ (.slice (some ⟨g3, 0, none⟩) 1 c3))) := ⟨k3, b3⟩; clear k3 b3 ho3 hb3; go_simp; refine hK _ _ ?_; clear hK KK
            refine wpAny_ready (rs := [19]) (by kernel_rfl) (by simp) ?_
            refine AllReady.cons rfl (fun KK hK => ?_) AllReady.nil
            go_simp; refine hK _ _ ?_; clear hK KK
            refine wpAny_take (i := 20) (v := ?vn45) rfl (by kernel_rfl) (by kernel_rfl) (by kernel_rfl) (fun _ _ _ h => h) (Or.inl ⟨by rfl, ?hyn45⟩) ?restn45
            case hyn45 => (intro w; go_simp; try with_reducible rfl)
            refine wpAny_take (i := 21) (v := ?vn46) rfl (by kernel_rfl) (by kernel_rfl) (by kernel_rfl) (fun _ _ _ h => h) (Or.inl ⟨by rfl, ?hyn46⟩) ?restn46
            case hyn46 => (intro w; go_simp; try with_reducible rfl)
            refine wpAny_ready (rs := [22]) (by kernel_rfl) (by simp) ?_
            refine AllReady.cons rfl (fun KK hK => ?_) AllReady.nil
            go_simp; refine hK _ _ ?_; clear hK KK
            refine wpAny_done (by kernel_rfl) ?_ _
            go_simp
            go_wp2
            go_ret
            exact ⟨rfl, HK.out.1, HK.out.2⟩
          refine AllReady.cons rfl (fun KK hK => ?_) AllReady.nil
          go_simp; refine hK _ _ ?_; clear hK KK
          refine wpAny_take (i := 18) (v := ?vn47) rfl (by kernel_rfl) (by kernel_rfl) (by kernel_rfl) (fun _ _ _ h => h) (Or.inl ⟨by rfl, ?hyn47⟩) ?restn47
          case hyn47 => (intro w; go_simp; try with_reducible rfl)
          refine wpAny_ready (rs := [4]) (by kernel_rfl) (by simp) ?_
          refine AllReady.cons rfl (fun KK hK => ?_) AllReady.nil
          go_simp; refine hK _ _ ?_; clear hK KK
          refine wpAny_take (i := 6) (v := ?vn48) rfl (by kernel_rfl) (by kernel_rfl) (by kernel_rfl) (fun _ _ _ h => h) (Or.inl ⟨by rfl, ?hyn48⟩) ?restn48
          case hyn48 => (intro w; go_simp; try with_reducible rfl)
          refine wpAny_ready (rs := [7]) (by kernel_rfl) (by simp) ?_
          refine AllReady.cons rfl (fun KK hK => ?_) AllReady.nil
          go_simp; refine hK _ _ ?_; clear hK KK
          refine wpAny_ready (rs := [12]) (by kernel_rfl) (by simp) ?_
          refine AllReady.cons rfl (fun KK hK => ?_) AllReady.nil
          refine step_srow rfl (.tmp 50) (.tmp 54) rfl w.heap.size (.slice none 0 0) [] [(who, r)] (by go_simp) (World.ownsRow_nil _ _ _ _) ⟨w.heap.size, 0, none⟩ 1 1 (by go_simp) rfl (by decide) (one_cells w (who, r)) hd1.size ?_; intro s3 n3 c3 w3 ho3 hb3 _; obtain ⟨g3, c3', e3, hc3, _⟩ := ho3.spot (by simp); simp only [Value.slice.injEq] at e3; obtain ⟨hs3, hn3, hcc⟩ := e3; subst hs3; have hn4 : n3 = 1 := hn3; subst hn4; have hc4 : 1 ≤ c3 := (by rw [hcc]; simpa using hc3); clear hn3 hcc hc3; obtain ⟨q3, f3, k3, b3⟩ := HEND.out _ 1 c3 w3 ho3 (hd1.trans hb3); have HK : Hid (KR B (w3.setCell ⟨q, 0, none⟩ (.slice (some ⟨g3, 0, none⟩) 1 c3)) q [(who, r)] ∧ Buts [q] w (w3.setCell ⟨q, 0, none⟩ (.slice (some ⟨g3, 0, none⟩) 1 c3))) := ⟨k3, b3⟩; clear k3 b3 ho3 hb3; go_simp; refine hK _ _ ?_; clear hK KK
          refine wpAny_ready (rs := [19]) (by kernel_rfl) (by simp) ?_
          refine AllReady.cons rfl (fun KK hK => ?_) AllReady.nil
          go_simp; refine hK _ _ ?_; clear hK KK
          refine wpAny_take (i := 20) (v := ?vn49) rfl (by kernel_rfl) (by kernel_rfl) (by kernel_rfl) (fun _ _ _ h => h) (Or.inl ⟨by rfl, ?hyn49⟩) ?restn49
          case hyn49 => (intro w; go_simp; try with_reducible rfl)
          refine wpAny_take (i := 21) (v := ?vn50) rfl (by kernel_rfl) (by kernel_rfl) (by kernel_rfl) (fun _ _ _ h => h) (Or.inl ⟨by rfl, ?hyn50⟩) ?restn50
          case hyn50 => (intro w; go_simp; try with_reducible rfl)
          refine wpAny_ready (rs := [22]) (by kernel_rfl) (by simp) ?_
          refine AllReady.cons rfl (fun KK hK => ?_) AllReady.nil
          go_simp; refine hK _ _ ?_; clear hK KK
          refine wpAny_done (by kernel_rfl) ?_ _
          go_simp
          go_wp2
          go_ret
          exact ⟨rfl, HK.out.1, HK.out.2⟩
        refine AllReady.cons rfl (fun KK hK => ?_) AllReady.nil
        go_simp; refine hK _ _ ?_; clear hK KK
        refine wpAny_take (i := 18) (v := ?vn51) rfl (by kernel_rfl) (by kernel_rfl) (by kernel_rfl) (fun _ _ _ h => h) (Or.inl ⟨by rfl, ?hyn51⟩) ?restn51
        case hyn51 => (intro w; go_simp; try with_reducible rfl)
        refine wpAny_ready (rs := [4, 11]) (by kernel_rfl) (by simp) ?_
        refine AllReady.cons rfl (fun KK hK => ?_) ?_
        · go_simp; refine hK _ _ ?_; clear hK KK
          refine wpAny_take (i := 6) (v := ?vn52) rfl (by kernel_rfl) (by kernel_rfl) (by kernel_rfl) (fun _ _ _ h => h) (Or.inl ⟨by rfl, ?hyn52⟩) ?restn52
          case hyn52 => (intro w; go_simp; try with_reducible rfl)
          refine wpAny_ready (rs := [7, 11]) (by kernel_rfl) (by simp) ?_
          refine AllReady.cons rfl (fun KK hK => ?_) ?_
          · go_simp; refine hK _ _ ?_; clear hK KK
            refine wpAny_ready (rs := [11]) (by kernel_rfl) (by simp) ?_
            refine AllReady.cons rfl (fun KK hK => ?_) AllReady.nil
            go_simp; refine hK _ _ ?_; clear hK KK
            refine wpAny_ready (rs := [12]) (by kernel_rfl) (by simp) ?_
            refine AllReady.cons rfl (fun KK hK => ?_) AllReady.nil
            refine step_srow rfl (.tmp 50) (.tmp 54) rfl w.heap.size (.slice none 0 0) [] [(who, r)] (by go_simp) (World.ownsRow_nil _ _ _ _) ⟨w.heap.size, 0, none⟩ 1 1 (by go_simp) rfl (by decide) (one_cells w (who, r)) hd1.size ?_; intro s3 n3 c3 w3 ho3 hb3 _; obtain ⟨g3, c3', e3, hc3, _⟩ := ho3.spot (by simp); simp only [Value.slice.injEq] at e3; obtain ⟨hs3, hn3, hcc⟩ := e3; subst hs3; have hn4 : n3 = 1 := hn3; subst hn4; have hc4 : 1 ≤ c3 := (by rw [hcc]; simpa using hc3); clear hn3 hcc hc3; obtain ⟨q3, f3, k3, b3⟩ := HEND.out _ 1 c3 w3 ho3 (hd1.trans hb3); have HK : Hid (KR B (w3.setCell ⟨q, 0, none⟩ (.slice (some ⟨g3, 0, none⟩) 1 c3)) q [(who, r)] ∧ Buts [q] w (w3.setCell ⟨q, 0, none⟩ (.slice (some ⟨g3, 0, none⟩) 1 c3))) := ⟨k3, b3⟩; clear k3 b3 ho3 hb3; go_simp; refine hK _ _ ?_; clear hK KK
            refine wpAny_ready (rs := [19]) (by kernel_rfl) (by simp) ?_
            refine AllReady.cons rfl (fun KK hK => ?_) AllReady.nil
            go_simp; refine hK _ _ ?_; clear hK KK
            refine wpAny_take (i := 20) (v := ?vn53) rfl (by kernel_rfl) (by kernel_rfl) (by kernel_rfl) (fun _ _ _ h => h) (Or.inl ⟨by rfl, ?hyn53⟩) ?restn53
            case hyn53 => (intro w; go_simp; try with_reducible rfl)
            refine wpAny_take (i := 21) (v := ?vn54) rfl (by kernel_rfl) (by kernel_rfl) (by kernel_rfl) (fun _ _ _ h => h) (Or.inl ⟨by rfl, ?hyn54⟩) ?restn54
            case hyn54 => (intro w; go_simp; try with_reducible rfl)
            refine wpAny_ready (rs := [22]) (by kernel_rfl) (by simp) ?_
            refine AllReady.cons rfl (fun KK hK => ?_) AllReady.nil
            go_simp; refine hK _ _ ?_; clear hK KK
            refine wpAny_done (by kernel_rfl) ?_ _
            go_simp
            go_wp2
            go_ret
            exact ⟨rfl, HK.out.1, HK.out.2⟩
          refine AllReady.cons rfl (fun KK hK => ?_) AllReady.nil
          go_simp; refine hK _ _ ?_; clear hK KK
          refine wpAny_ready (rs := [7]) (by kernel_rfl) (by simp) ?_
          refine AllReady.cons rfl (fun KK hK => ?_) AllReady.nil
          go_simp; refine hK _ _ ?_; clear hK KK
          refine wpAny_ready (rs := [12]) (by kernel_rfl) (by simp) ?_
          refine AllReady.cons rfl (fun KK hK => ?_) AllReady.nil
          refine step_srow rfl (.tmp 50) (.tmp 54) rfl w.heap.size (.slice none 0 0) [] [(who, r)] (by go_simp) (World.ownsRow_nil _ _ _ _) ⟨w.heap.size, 0, none⟩ 1 1 (by go_simp) rfl (by decide) (one_cells w (who, r)) hd1.size ?_; intro s3 n3 c3 w3 ho3 hb3 _; obtain ⟨g3, c3', e3, hc3, _⟩ := ho3.spot (by simp); simp only [Value.slice.injEq] at e3; obtain ⟨hs3, hn3, hcc⟩ := e3; subst hs3; have hn4 : n3 = 1 := hn3; subst hn4; have hc4 : 1 ≤ c3 := (by rw [hcc]; simpa using hc3); clear hn3 hcc hc3; obtain ⟨q3, f3, k3, b3⟩ := HEND.out _ 1 c3 w3 ho3 (hd1.trans hb3); have HK : Hid (KR B (w3.setCell ⟨q, 0, none⟩ (.slice (some ⟨g3, 0, none⟩) 1 c3)) q [(who, r)] ∧ Buts [q] w (w3.setCell ⟨q, 0, none⟩ (.slice (some ⟨g3, 0, none⟩) 1 c3))) := ⟨k3, b3⟩; clear k3 b3 ho3 hb3; go_simp; refine hK _ _ ?_; clear hK KK
          refine wpAny_ready (rs := [19]) (by kernel_rfl) (by simp) ?_
          refine AllReady.cons rfl (fun KK hK => ?_) AllReady.nil
          go_simp; refine hK _ _ ?_; clear hK KK
          refine wpAny_take (i := 20) (v := ?vn55) rfl (by kernel_rfl) (by kernel_rfl) (by kernel_rfl) (fun _ _ _ h => h) (Or.inl ⟨by rfl, ?hyn55⟩) ?restn55
          case hyn55 => (intro w; go_simp; try with_reducible rfl)
          refine wpAny_take (i := 21) (v := ?vn56) rfl (by kernel_rfl) (by kernel_rfl) (by kernel_rfl) (fun _ _ _ h => h) (Or.inl ⟨by rfl, ?hyn56⟩) ?restn56
          case hyn56 => (intro w; go_simp; try with_reducible rfl)
          refine wpAny_ready (rs := [22]) (by kernel_rfl) (by simp) ?_
          refine AllReady.cons rfl (fun KK hK => ?_) AllReady.nil
          go_simp; refine hK _ _ ?_; clear hK KK
          refine wpAny_done (by kernel_rfl) ?_ _
          go_simp
          go_wp2
          go_ret
          exact ⟨rfl, HK.out.1, HK.out.2⟩
        refine AllReady.cons rfl (fun KK hK => ?_) AllReady.nil
        go_simp; refine hK _ _ ?_; clear hK KK
        refine wpAny_ready (rs := [4]) (by kernel_rfl) (by simp) ?_
        refine AllReady.cons rfl (fun KK hK => ?_) AllReady.nil
        go_simp; refine hK _ _ ?_; clear hK KK
        refine wpAny_take (i := 6) (v := ?vn57) rfl (by kernel_rfl) (by kernel_rfl) (by kernel_rfl) (fun _ _ _ h => h) (Or.inl ⟨by rfl, ?hyn57⟩) ?restn57
        case hyn57 => (intro w; go_simp; try with_reducible rfl)
        refine wpAny_ready (rs := [7]) (by kernel_rfl) (by simp) ?_
        refine AllReady.cons rfl (fun KK hK => ?_) AllReady.nil
        go_simp; refine hK _ _ ?_; clear hK KK
        refine wpAny_ready (rs := [12]) (by kernel_rfl) (by simp) ?_
        refine AllReady.cons rfl (fun KK hK => ?_) AllReady.nil
        refine step_srow rfl (.tmp 50) (.tmp 54) rfl w.heap.size (.slice none 0 0) [] [(who, r)] (by go_simp) (World.ownsRow_nil _ _ _ _) ⟨w.heap.size, 0, none⟩ 1 1 (by go_simp) rfl (by decide) (one_cells w (who, r)) hd1.size ?_; intro s3 n3 c3 w3 ho3 hb3 _; obtain ⟨g3, c3', e3, hc3, _⟩ := ho3.spot (by simp); simp only [Value.slice.injEq] at e3; obtain ⟨hs3, hn3, hcc⟩ := e3; subst hs3; have hn4 : n3 = 1 := hn3; subst hn4; have hc4 : 1 ≤ c3 := (by rw [hcc]; simpa using hc3); clear hn3 hcc hc3; obtain ⟨q3, f3, k3, b3⟩ := HEND.out _ 1 c3 w3 ho3 (hd1.trans hb3); have HK : Hid (KR B (w3.setCell ⟨q, 0, none⟩ (.slice (some ⟨g3, 0, none⟩) 1 c3)) q [(who, r)] ∧ Buts [q] w (w3.setCell ⟨q, 0, none⟩ (.slice (some ⟨g3, 0, none⟩) 1 c3))) := ⟨k3, b3⟩; clear k3 b3 ho3 hb3; go_simp; refine hK _ _ ?_; clear hK KK
        refine wpAny_ready (rs := [19]) (by kernel_rfl) (by simp) ?_
        refine AllReady.cons rfl (fun KK hK => ?_) AllReady.nil
        go_simp; refine hK _ _ ?_; clear hK KK
        refine wpAny_take (i := 20) (v := ?vn58) rfl (by kernel_rfl) (by kernel_rfl) (by kernel_rfl) (fun _ _ _ h => h) (Or.inl ⟨by rfl, ?hyn58⟩) ?restn58
        case hyn58 => (intro w; go_simp; try with_reducible rfl)
        refine wpAny_take (i := 21) (v := ?vn59) rfl (by kernel_rfl) (by kernel_rfl) (by kernel_rfl) (fun _ _ _ h => h) (Or.inl ⟨by rfl, ?hyn59⟩) ?restn59
        case hyn59 => (intro w; go_simp; try with_reducible rfl)
        refine wpAny_ready (rs := [22]) (by kernel_rfl) (by simp) ?_
        refine AllReady.cons rfl (fun KK hK => ?_) AllReady.nil
        go_simp; refine hK _ _ ?_; clear hK KK
        refine wpAny_done (by kernel_rfl) ?_ _
        go_simp
        go_wp2
        go_ret
        exact ⟨rfl, HK.out.1, HK.out.2⟩
      · obtain ⟨n, hn⟩ : ∃ n, ys.length = n := ⟨_, rfl⟩
        have hown := h.own
        rw [hv] at hlk HEND hown
        rw [hn] at hlk HEND hown hl hc1 HRI HRY
        have HN : Hid (ys.length = n) := hn
        have hKn := HRI.out
        obtain ⟨AD, hA, hAD⟩ := from_at hown hn.symm (k1 := K) hKn hc1
        have HAD : Hid (∀ w1, Below w.heap.size w w1 → ∀ j u, (lks (ys.drop K))[j]? = some u → w1.cell? (AD.add j) = some u) := hAD
        have HTO : Hid (∀ w1, Below w.heap.size w w1 → ∀ j u, (lks (ys.take K))[j]? = some u → w1.cell? ((⟨g, 0, none⟩ : Addr).add j) = some u) := fun w1 hb => to_at hown hn.symm K hb
        have HT1 : Hid ((ys.take K).length = K) := by show _ = _; rw [List.length_take, hn]; omega
        have HT2 : Hid ((ys.drop K).length = n - K) := by show _ = _; rw [List.length_drop, hn]
        have HLIM : Hid (([] : List (Int × Int)).length + K ≤ 2000 ∧ (([] : List (Int × Int)) ++ ys.take K).length + 1 ≤ 2000 ∧ ((([] : List (Int × Int)) ++ ys.take K) ++ [(who, r)]).length + (n - K) ≤ 2000) := by
          have h1 := HT1.out
          refine ⟨by simp; omega, by simp; omega, by simp; omega⟩
        have HSP : Hid ((([] ++ ys.take K) ++ [(who, r)]) ++ ys.drop K = ys.take K ++ (who, r) :: ys.drop K) := by show _ = _; simp
        have a3 : (K : Int) ≤ cap := by omega
        have a5 : (n : Int) ≤ cap := by omega
        have a6 : (K : Int) ≤ n := by omega
        have HCS : Hid (∀ k, k < n → w.cell? ⟨g, k * 2, none⟩ = some (.int .i64 (ys.getD k (0, 0)).1) ∧ w.cell? ⟨g, k * 2 + 1, none⟩ = some (.int .i64 (ys.getD k (0, 0)).2)) := fun k hk => hown.cells hn.symm k (by omega)
        simp only [maxLen] at hc2
        clear h hv hn hown hAD
        go_enter Tryd.func12, Tryd.ntmps12
        go_wp2_with (first | (go_at_call 22; refine hK.mono ?_; rintro e wx ⟨rfl, rfl⟩))
        go_loopg [7] K (fun gk s7 wx => ∃ i : Nat, i + gk = K ∧ s7 = .int .i64 i ∧ w = wx)
        case atStart => exact ⟨0, by omega, rfl, rfl⟩
        obtain ⟨i, hig, rfl, rfl⟩ := hrel
        cases gk with
        | succ g' =>
          have hin : i < n := by omega
          have hlt : (i : Int) < n := by omega
          obtain ⟨_, c1⟩ := HCS.out i hin
          have hge := HRN.out i (by omega)
          generalize (ys.getD i (0, 0)).2 = z at *
          go_wp2
          go_roundg g'
          case measure => omega
          case rel => exact ⟨i + 1, by omega, by go_num, rfl⟩
        | zero =>
        obtain rfl : i = K := by omega
        clear hig
        rcases Nat.lt_or_ge i n with hin | hin
        · have hlt : (i : Int) < n := by omega
          obtain ⟨_, c1⟩ := HCS.out i hin
          have hge := HRY.out hin
          have hge2 : ¬ r ≤ (ys.getD i (0, 0)).2 := by omega
          generalize (ys.getD i (0, 0)).2 = z at *
          go_wp2
          refine wp_region_any hmx ?_
          refine wpAny_take (i := 0) (v := ?vm1) rfl (by kernel_rfl) (by kernel_rfl) (by kernel_rfl) (fun _ _ _ h => h) (Or.inl ⟨by rfl, ?hym1⟩) ?restm1
          case hym1 => (intro w; go_simp; try with_reducible rfl)
          refine wpAny_take (i := 1) (v := ?vm2) rfl (by kernel_rfl) (by kernel_rfl) (by kernel_rfl) (fun _ _ _ h => h) (Or.inl ⟨by rfl, ?hym2⟩) ?restm2
          case hym2 => (intro w; go_simp; try with_reducible rfl)
          refine wpAny_take (i := 2) (v := ?vm3) rfl (by kernel_rfl) (by kernel_rfl) (by kernel_rfl) (fun _ _ _ h => h) (Or.inl ⟨by rfl, ?hym3⟩) ?restm3
          case hym3 => (intro w; go_simp; try with_reducible rfl)
          refine wpAny_take (i := 3) (v := ?vm4) rfl (by kernel_rfl) (by kernel_rfl) (by kernel_rfl) (fun _ _ _ h => h) (Or.inl ⟨by rfl, ?hym4⟩) ?restm4
          case hym4 => (intro w; go_simp; try with_reducible rfl)
          refine wpAny_take (i := 5) (v := ?vm5) rfl (by kernel_rfl) (by kernel_rfl) (by kernel_rfl) (fun _ _ _ h => h) (Or.inl ⟨by rfl, ?hym5⟩) ?restm5
          case hym5 => (intro w; go_simp; try with_reducible rfl)
          refine wpAny_take (i := 8) (v := ?vm6) rfl (by kernel_rfl) (by kernel_rfl) (by kernel_rfl) (fun _ _ _ h => h) (Or.inl ⟨by rfl, ?hym6⟩) ?restm6
          case hym6 => (intro w; go_simp; try with_reducible rfl)
          refine wpAny_take (i := 9) (v := ?vm7) rfl (by kernel_rfl) (by kernel_rfl) (by kernel_rfl) (fun _ _ _ h => h) (Or.inl ⟨by rfl, ?hym7⟩) ?restm7
          case hym7 => (intro w; go_simp; try with_reducible rfl)
          refine wpAny_take (i := 10) (v := ?vm8) rfl (by kernel_rfl) (by kernel_rfl) (by kernel_rfl) (fun _ _ _ h => h) (Or.inl ⟨by rfl, ?hym8⟩) ?restm8
          case hym8 => (intro w; go_simp; try with_reducible rfl)
          refine wpAny_take (i := 13) (v := ?vm9) rfl (by kernel_rfl) (by kernel_rfl) (by kernel_rfl) (fun _ _ _ h => h) (Or.inl ⟨by rfl, ?hym9⟩) ?restm9
          case hym9 => (intro w; go_simp; try with_reducible rfl)
          refine wpAny_take (i := 14) (v := ?vm10) rfl (by kernel_rfl) (by kernel_rfl) (by kernel_rfl) (fun _ _ _ h => h) (Or.inl ⟨by rfl, ?hym10⟩) ?restm10
          case hym10 => (intro w; go_simp; try with_reducible rfl)
          refine wpAny_take (i := 15) (v := ?vm11) rfl (by kernel_rfl) (by kernel_rfl) (by kernel_rfl) (fun _ _ _ h => h) (Or.inl ⟨by rfl, ?hym11⟩) ?restm11
          case hym11 => (intro w; go_simp; try with_reducible rfl)
          refine wpAny_take (i := 17) (v := ?vm12) rfl (by kernel_rfl) (by kernel_rfl) (by kernel_rfl) (fun _ _ _ h => h) (Or.inl ⟨by rfl, ?hym12⟩) ?restm12
          case hym12 => (intro w; go_simp; try with_reducible rfl)
          refine wpAny_ready (rs := [4, 11, 16]) (by kernel_rfl) (by simp) ?_
          refine AllReady.cons rfl (fun KK hK => ?_) ?_
          · go_simp; refine hK _ _ ?_; clear hK KK
            refine wpAny_take (i := 6) (v := ?vm13) rfl (by kernel_rfl) (by kernel_rfl) (by kernel_rfl) (fun _ _ _ h => h) (Or.inl ⟨by rfl, ?hym13⟩) ?restm13
            case hym13 => (intro w; go_simp; try with_reducible rfl)
            refine wpAny_ready (rs := [7, 11, 16]) (by kernel_rfl) (by simp) ?_
            refine AllReady.cons rfl (fun KK hK => ?_) ?_
            · refine step_srow rfl (.const (.slice none 0 0)) (.tmp 49) rfl w.heap.size (.slice none 0 0) [] (ys.take i) rfl (World.ownsRow_nil _ _ _ _) ⟨g, 0, none⟩ i cap (by go_simp) HT1.out HLIM.out.1 (HTO.out w.drew hd0) hd0.size ?_; intro s1 n1 c1 w1 ho1 hb1 hbb; have H1 : Hid (OwnS w.heap.size w1 (.slice s1 n1 c1) ([] ++ ys.take i) ∧ Below w.heap.size w w1) := ⟨ho1, hd0.trans hb1⟩; have kq1 : w1.cell? ⟨q, 0, none⟩ = some (.slice (some ⟨g, 0, none⟩) n cap) := ((hd0.trans hb1).cell (p := ⟨q, 0, none⟩) HQL.out).trans hlk; have hq1 : q < w1.heap.size := Nat.lt_of_lt_of_le HQL.out (hd0.trans hb1).size; clear ho1 hb1 hbb; go_simp; refine hK _ _ ?_; clear hK KK
              refine wpAny_ready (rs := [11, 16]) (by kernel_rfl) (by simp) ?_
              refine AllReady.cons rfl (fun KK hK => ?_) ?_
              · go_simp; refine hK _ _ ?_; clear hK KK
                refine wpAny_ready (rs := [12, 16]) (by kernel_rfl) (by simp) ?_
                refine AllReady.cons rfl (fun KK hK => ?_) ?_
                · refine step_srow rfl (.tmp 50) (.tmp 54) rfl w.heap.size (.slice s1 n1 c1) ([] ++ ys.take i) [(who, r)] (by go_simp) (H1.out.1.below (alloc_below w1 _)) ⟨w1.heap.size, 0, none⟩ 1 1 (by go_simp) rfl HLIM.out.2.1 (one_cells w1 (who, r)) (Nat.le_trans H1.out.2.size (alloc_below w1 _).size) ?_; intro s2 n2 c2 w2 ho2 hb2 _; have H2 : Hid (OwnS w.heap.size w2 (.slice s2 n2 c2) (([] ++ ys.take i) ++ [(who, r)]) ∧ Below w.heap.size w w2) := ⟨ho2, (H1.out.2.trans ((alloc_below w1 _).mono H1.out.2.size)).trans hb2⟩; have kq2 : w2.cell? ⟨q, 0, none⟩ = some (.slice (some ⟨g, 0, none⟩) n cap) := (H2.out.2.cell (p := ⟨q, 0, none⟩) HQL.out).trans hlk; clear ho2 hb2; go_simp; refine hK _ _ ?_; clear hK KK
                  refine wpAny_ready (rs := [16]) (by kernel_rfl) (by simp) ?_
                  refine AllReady.cons rfl (fun KK hK => ?_) AllReady.nil
                  go_simp; refine hK _ _ ?_; clear hK KK
                  refine wpAny_take (i := 18) (v := ?vm14) rfl (by kernel_rfl) (by kernel_rfl) (by kernel_rfl) (fun _ _ _ h => h) (Or.inl ⟨by rfl, ?hym14⟩) ?restm14
                  case hym14 => (intro w; go_simp; try with_reducible rfl)
                  refine wpAny_ready (rs := [19]) (by kernel_rfl) (by simp) ?_
                  refine AllReady.cons rfl (fun KK hK => ?_) AllReady.nil
                  refine step_srow rfl (.tmp 55) (.tmp 61) rfl w.heap.size (.slice s2 n2 c2) (([] ++ ys.take i) ++ [(who, r)]) (ys.drop i) (by go_simp) H2.out.1 AD (n - i) (cap - i) (by go_simp) HT2.out HLIM.out.2.2 (HAD.out w2 H2.out.2) H2.out.2.size ?_; intro s3 n3 c3 w3 ho3 hb3 _; obtain ⟨q3, f3, k3, b3⟩ := HEND.out s3 n3 c3 w3 (by rw [← HSP.out]; exact ho3) (H2.out.2.trans hb3); have HK : Hid (KR B (w3.setCell ⟨q, 0, none⟩ (.slice s3 n3 c3)) q (ys.take i ++ (who, r) :: ys.drop i) ∧ Buts [q] w (w3.setCell ⟨q, 0, none⟩ (.slice s3 n3 c3))) := ⟨k3, b3⟩; clear k3 b3 ho3 hb3; go_simp; refine hK _ _ ?_; clear hK KK
                  refine wpAny_take (i := 20) (v := ?vm15) rfl (by kernel_rfl) (by kernel_rfl) (by kernel_rfl) (fun _ _ _ h => h) (Or.inl ⟨by rfl, ?hym15⟩) ?restm15
                  case hym15 => (intro w; go_simp; try with_reducible rfl)
                  refine wpAny_take (i := 21) (v := ?vm16) rfl (by kernel_rfl) (by kernel_rfl) (by kernel_rfl) (fun _ _ _ h => h) (Or.inl ⟨by rfl, ?hym16⟩) ?restm16
                  case hym16 => (intro w; go_simp; try with_reducible rfl)
                  refine wpAny_ready (rs := [22]) (by kernel_rfl) (by simp) ?_
                  refine AllReady.cons rfl (fun KK hK => ?_) AllReady.nil
                  go_simp; refine hK _ _ ?_; clear hK KK
                  refine wpAny_done (by kernel_rfl) ?_ _
                  go_simp
                  go_wp2
                  go_ret
                  exact ⟨rfl, HK.out.1, HK.out.2⟩
                refine AllReady.cons rfl (fun KK hK => ?_) AllReady.nil
                go_simp; refine hK _ _ ?_; clear hK KK
                refine wpAny_take (i := 18) (v := ?vm17) rfl (by kernel_rfl) (by kernel_rfl) (by kernel_rfl) (fun _ _ _ h => h) (Or.inl ⟨by rfl, ?hym17⟩) ?restm17
                case hym17 => (intro w; go_simp; try with_reducible rfl)
                refine wpAny_ready (rs := [12]) (by kernel_rfl) (by simp) ?_
                refine AllReady.cons rfl (fun KK hK => ?_) AllReady.nil
                refine step_srow rfl (.tmp 50) (.tmp 54) rfl w.heap.size (.slice s1 n1 c1) ([] ++ ys.take i) [(who, r)] (by go_simp) (H1.out.1.below (alloc_below w1 _)) ⟨w1.heap.size, 0, none⟩ 1 1 (by go_simp) rfl HLIM.out.2.1 (one_cells w1 (who, r)) (Nat.le_trans H1.out.2.size (alloc_below w1 _).size) ?_; intro s2 n2 c2 w2 ho2 hb2 _; have H2 : Hid (OwnS w.heap.size w2 (.slice s2 n2 c2) (([] ++ ys.take i) ++ [(who, r)]) ∧ Below w.heap.size w w2) := ⟨ho2, (H1.out.2.trans ((alloc_below w1 _).mono H1.out.2.size)).trans hb2⟩; have kq2 : w2.cell? ⟨q, 0, none⟩ = some (.slice (some ⟨g, 0, none⟩) n cap) := (H2.out.2.cell (p := ⟨q, 0, none⟩) HQL.out).trans hlk; clear ho2 hb2; go_simp; refine hK _ _ ?_; clear hK KK
                refine wpAny_ready (rs := [19]) (by kernel_rfl) (by simp) ?_
                refine AllReady.cons rfl (fun KK hK => ?_) AllReady.nil
                refine step_srow rfl (.tmp 55) (.tmp 61) rfl w.heap.size (.slice s2 n2 c2) (([] ++ ys.take i) ++ [(who, r)]) (ys.drop i) (by go_simp) H2.out.1 AD (n - i) (cap - i) (by go_simp) HT2.out HLIM.out.2.2 (HAD.out w2 H2.out.2) H2.out.2.size ?_; intro s3 n3 c3 w3 ho3 hb3 _; obtain ⟨q3, f3, k3, b3⟩ := HEND.out s3 n3 c3 w3 (by rw [← HSP.out]; exact ho3) (H2.out.2.trans hb3); have HK : Hid (KR B (w3.setCell ⟨q, 0, none⟩ (.slice s3 n3 c3)) q (ys.take i ++ (who, r) :: ys.drop i) ∧ Buts [q] w (w3.setCell ⟨q, 0, none⟩ (.slice s3 n3 c3))) := ⟨k3, b3⟩; clear k3 b3 ho3 hb3; go_simp; refine hK _ _ ?_; clear hK KK
                refine wpAny_take (i := 20) (v := ?vm18) rfl (by kernel_rfl) (by kernel_rfl) (by kernel_rfl) (fun _ _ _ h => h) (Or.inl ⟨by rfl, ?hym18⟩) ?restm18
                case hym18 => (intro w; go_simp; try with_reducible rfl)
                refine wpAny_take (i := 21) (v := ?vm19) rfl (by kernel_rfl) (by kernel_rfl) (by kernel_rfl) (fun _ _ _ h => h) (Or.inl ⟨by rfl, ?hym19⟩) ?restm19
                case hym19 => (intro w; go_simp; try with_reducible rfl)
                refine wpAny_ready (rs := [22]) (by kernel_rfl) (by simp) ?_
                refine AllReady.cons rfl (fun KK hK => ?_) AllReady.nil
                go_simp; refine hK _ _ ?_; clear hK KK
                refine wpAny_done (by kernel_rfl) ?_ _
                go_simp
                go_wp2
                go_ret
                exact ⟨rfl, HK.out.1, HK.out.2⟩
              refine AllReady.cons rfl (fun KK hK => ?_) AllReady.nil
              go_simp; refine hK _ _ ?_; clear hK KK
              refine wpAny_take (i := 18) (v := ?vm20) rfl (by kernel_rfl) (by kernel_rfl) (by kernel_rfl) (fun _ _ _ h => h) (Or.inl ⟨by rfl, ?hym20⟩) ?restm20
              case hym20 => (intro w; go_simp; try with_reducible rfl)
              refine wpAny_ready (rs := [11]) (by kernel_rfl) (by simp) ?_
              refine AllReady.cons rfl (fun KK hK => ?_) AllReady.nil
              go_simp; refine hK _ _ ?_; clear hK KK
              refine wpAny_ready (rs := [12]) (by kernel_rfl) (by simp) ?_
              refine AllReady.cons rfl (fun KK hK => ?_) AllReady.nil
              refine step_srow rfl (.tmp 50) (.tmp 54) rfl w.heap.size (.slice s1 n1 c1) ([] ++ ys.take i) [(who, r)] (by go_simp) (H1.out.1.below (alloc_below w1 _)) ⟨w1.heap.size, 0, none⟩ 1 1 (by go_simp) rfl HLIM.out.2.1 (one_cells w1 (who, r)) (Nat.le_trans H1.out.2.size (alloc_below w1 _).size) ?_; intro s2 n2 c2 w2 ho2 hb2 _; have H2 : Hid (OwnS w.heap.size w2 (.slice s2 n2 c2) (([] ++ ys.take i) ++ [(who, r)]) ∧ Below w.heap.size w w2) := ⟨ho2, (H1.out.2.trans ((alloc_below w1 _).mono H1.out.2.size)).trans hb2⟩; have kq2 : w2.cell? ⟨q, 0, none⟩ = some (.slice (some ⟨g, 0, none⟩) n cap) := (H2.out.2.cell (p := ⟨q, 0, none⟩) HQL.out).trans hlk; clear ho2 hb2; go_simp; refine hK _ _ ?_; clear hK KK
              refine wpAny_ready (rs := [19]) (by kernel_rfl) (by simp) ?_
              refine AllReady.cons rfl (fun KK hK => ?_) AllReady.nil
              refine step_srow rfl (.tmp 55) (.tmp 61) rfl w.heap.size (.slice s2 n2 c2) (([] ++ ys.take i) ++ [(who, r)]) (ys.drop i) (by go_simp) H2.out.1 AD (n - i) (cap - i) (by go_simp) HT2.out HLIM.out.2.2 (HAD.out w2 H2.out.2) H2.out.2.size ?_; intro s3 n3 c3 w3 ho3 hb3 _; obtain ⟨q3, f3, k3, b3⟩ := HEND.out s3 n3 c3 w3 (by rw [← HSP.out]; exact ho3) (H2.out.2.trans hb3); have HK : Hid (KR B (w3.setCell ⟨q, 0, none⟩ (.slice s3 n3 c3)) q (ys.take i ++ (who, r) :: ys.drop i) ∧ Buts [q] w (w3.setCell ⟨q, 0, none⟩ (.slice s3 n3 c3))) := ⟨k3, b3⟩; clear k3 b3 ho3 hb3; go_simp; refine hK _ _ ?_; clear hK KK
              refine wpAny_take (i := 20) (v := ?vm21) rfl (by kernel_rfl) (by kernel_rfl) (by kernel_rfl) (fun _ _ _ h => h) (Or.inl ⟨by rfl, ?hym21⟩) ?restm21
              case hym21 => (intro w; go_simp; try with_reducible rfl)
              refine wpAny_take (i := 21) (v := ?vm22) rfl (by kernel_rfl) (by kernel_rfl) (by kernel_rfl) (fun _ _ _ h => h) (Or.inl ⟨by rfl, ?hym22⟩) ?restm22
              case hym22 => (intro w; go_simp; try with_reducible rfl)
              refine wpAny_ready (rs := [22]) (by kernel_rfl) (by simp) ?_
              refine AllReady.cons rfl (fun KK hK => ?_) AllReady.nil
              go_simp; refine hK _ _ ?_; clear hK KK
              refine wpAny_done (by kernel_rfl) ?_ _
              go_simp
              go_wp2
              go_ret
              exact ⟨rfl, HK.out.1, HK.out.2⟩
            refine AllReady.cons rfl (fun KK hK => ?_) ?_
            · go_simp; refine hK _ _ ?_; clear hK KK
              refine wpAny_ready (rs := [7, 16]) (by kernel_rfl) (by simp) ?_
              refine AllReady.cons rfl (fun KK hK => ?_) ?_
              · refine step_srow rfl (.const (.slice none 0 0)) (.tmp 49) rfl w.heap.size (.slice none 0 0) [] (ys.take i) rfl (World.ownsRow_nil _ _ _ _) ⟨g, 0, none⟩ i cap (by go_simp) HT1.out HLIM.out.1 (HTO.out (w.alloc (.cells #[.int .i64 who, .int .i64 r] 66)).drew hd1) hd1.size ?_; intro s1 n1 c1 w1 ho1 hb1 hbb; have H1 : Hid (OwnS w.heap.size w1 (.slice s1 n1 c1) ([] ++ ys.take i) ∧ Below w.heap.size w w1) := ⟨ho1, hd1.trans hb1⟩; have kq1 : w1.cell? ⟨q, 0, none⟩ = some (.slice (some ⟨g, 0, none⟩) n cap) := ((hd1.trans hb1).cell (p := ⟨q, 0, none⟩) HQL.out).trans hlk; have hq1 : q < w1.heap.size := Nat.lt_of_lt_of_le HQL.out (hd1.trans hb1).size; have HONE : Hid (∀ j u, (lks [(who, r)])[j]? = some u → w1.cell? ((⟨w.heap.size, 0, none⟩ : Addr).add j) = some u) := (fun j u hj => by rw [addr_add, (hbb rfl).cell (p := ⟨w.heap.size, 0 + j, none⟩) (by show _ < (w.alloc (.cells #[.int .i64 who, .int .i64 r] 66)).heap.size; rw [alloc_size]; exact Nat.lt_succ_self _), ← addr_add]; exact one_cells w (who, r) j u hj); clear ho1 hb1 hbb; go_simp; refine hK _ _ ?_; clear hK KK
                refine wpAny_ready (rs := [12, 16]) (by kernel_rfl) (by simp) ?_
                refine AllReady.cons rfl (fun KK hK => ?_) ?_
                · refine step_srow rfl (.tmp 50) (.tmp 54) rfl w.heap.size (.slice s1 n1 c1) ([] ++ ys.take i) [(who, r)] (by go_simp) H1.out.1 ⟨w.heap.size, 0, none⟩ 1 1 (by go_simp) rfl HLIM.out.2.1 HONE.out H1.out.2.size ?_; intro s2 n2 c2 w2 ho2 hb2 _; have H2 : Hid (OwnS w.heap.size w2 (.slice s2 n2 c2) (([] ++ ys.take i) ++ [(who, r)]) ∧ Below w.heap.size w w2) := ⟨ho2, H1.out.2.trans hb2⟩; have kq2 : w2.cell? ⟨q, 0, none⟩ = some (.slice (some ⟨g, 0, none⟩) n cap) := (H2.out.2.cell (p := ⟨q, 0, none⟩) HQL.out).trans hlk; clear ho2 hb2; go_simp; refine hK _ _ ?_; clear hK KK
                  refine wpAny_ready (rs := [16]) (by kernel_rfl) (by simp) ?_
                  refine AllReady.cons rfl (fun KK hK => ?_) AllReady.nil
                  go_simp; refine hK _ _ ?_; clear hK KK
                  refine wpAny_take (i := 18) (v := ?vm23) rfl (by kernel_rfl) (by kernel_rfl) (by kernel_rfl) (fun _ _ _ h => h) (Or.inl ⟨by rfl, ?hym23⟩) ?restm23
                  case hym23 => (intro w; go_simp; try with_reducible rfl)
                  refine wpAny_ready (rs := [19]) (by kernel_rfl) (by simp) ?_
                  refine AllReady.cons rfl (fun KK hK => ?_) AllReady.nil
                  refine step_srow rfl (.tmp 55) (.tmp 61) rfl w.heap.size (.slice s2 n2 c2) (([] ++ ys.take i) ++ [(who, r)]) (ys.drop i) (by go_simp) H2.out.1 AD (n - i) (cap - i) (by go_simp) HT2.out HLIM.out.2.2 (HAD.out w2 H2.out.2) H2.out.2.size ?_; intro s3 n3 c3 w3 ho3 hb3 _; obtain ⟨q3, f3, k3, b3⟩ := HEND.out s3 n3 c3 w3 (by rw [← HSP.out]; exact ho3) (H2.out.2.trans hb3); have HK : Hid (KR B (w3.setCell ⟨q, 0, none⟩ (.slice s3 n3 c3)) q (ys.take i ++ (who, r) :: ys.drop i) ∧ Buts [q] w (w3.setCell ⟨q, 0, none⟩ (.slice s3 n3 c3))) := ⟨k3, b3⟩; clear k3 b3 ho3 hb3; go_simp; refine hK _ _ ?_; clear hK KK
                  refine wpAny_take (i := 20) (v := ?vm24) rfl (by kernel_rfl) (by kernel_rfl) (by kernel_rfl) (fun _ _ _ h => h) (Or.inl ⟨by rfl, ?hym24⟩) ?restm24
                  case hym24 => (intro w; go_simp; try with_reducible rfl)
                  refine wpAny_take (i := 21) (v := ?vm25) rfl (by kernel_rfl) (by kernel_rfl) (by kernel_rfl) (fun _ _ _ h => h) (Or.inl ⟨by rfl, ?hym25⟩) ?restm25
                  case hym25 => (intro w; go_simp; try with_reducible rfl)
                  refine wpAny_ready (rs := [22]) (by kernel_rfl) (by simp) ?_
                  refine AllReady.cons rfl (fun KK hK => ?_) AllReady.nil
                  go_simp; refine hK _ _ ?_; clear hK KK
                  refine wpAny_done (by kernel_rfl) ?_ _
                  go_simp
                  go_wp2
                  go_ret
                  exact ⟨rfl, HK.out.1, HK.out.2⟩
                refine AllReady.cons rfl (fun KK hK => ?_) AllReady.nil
                go_simp; refine hK _ _ ?_; clear hK KK
                refine wpAny_take (i := 18) (v := ?vm26) rfl (by kernel_rfl) (by kernel_rfl) (by kernel_rfl) (fun _ _ _ h => h) (Or.inl ⟨by rfl, ?hym26⟩) ?restm26
                case hym26 => (intro w; go_simp; try with_reducible rfl)
                refine wpAny_ready (rs := [12]) (by kernel_rfl) (by simp) ?_
                refine AllReady.cons rfl (fun KK hK => ?_) AllReady.nil
                refine step_srow rfl (.tmp 50) (.tmp 54) rfl w.heap.size (.slice s1 n1 c1) ([] ++ ys.take i) [(who, r)] (by go_simp) H1.out.1 ⟨w.heap.size, 0, none⟩ 1 1 (by go_simp) rfl HLIM.out.2.1 HONE.out H1.out.2.size ?_; intro s2 n2 c2 w2 ho2 hb2 _; have H2 : Hid (OwnS w.heap.size w2 (.slice s2 n2 c2) (([] ++ ys.take i) ++ [(who, r)]) ∧ Below w.heap.size w w2) := ⟨ho2, H1.out.2.trans hb2⟩; have kq2 : w2.cell? ⟨q, 0, none⟩ = some (.slice (some ⟨g, 0, none⟩) n cap) := (H2.out.2.cell (p := ⟨q, 0, none⟩) HQL.out).trans hlk; clear ho2 hb2; go_simp; refine hK _ _ ?_; clear hK KK
                refine wpAny_ready (rs := [19]) (by kernel_rfl) (by simp) ?_
                refine AllReady.cons rfl (fun KK hK => ?_) AllReady.nil
                refine step_srow rfl (.tmp 55) (.tmp 61) rfl w.heap.size (.slice s2 n2 c2) (([] ++ ys.take i) ++ [(who, r)]) (ys.drop i) (by go_simp) H2.out.1 AD (n - i) (cap - i) (by go_simp) HT2.out HLIM.out.2.2 (HAD.out w2 H2.out.2) H2.out.2.size ?_; intro s3 n3 c3 w3 ho3 hb3 _; obtain ⟨q3, f3, k3, b3⟩ := HEND.out s3 n3 c3 w3 (by rw [← HSP.out]; exact ho3) (H2.out.2.trans hb3); have HK : Hid (KR B (w3.setCell ⟨q, 0, none⟩ (.slice s3 n3 c3)) q (ys.take i ++ (who, r) :: ys.drop i) ∧ Buts [q] w (w3.setCell ⟨q, 0, none⟩ (.slice s3 n3 c3))) := ⟨k3, b3⟩; clear k3 b3 ho3 hb3; go_simp; refine hK _ _ ?_; clear hK KK
                refine wpAny_take (i := 20) (v := ?vm27) rfl (by kernel_rfl) (by kernel_rfl) (by kernel_rfl) (fun _ _ _ h => h) (Or.inl ⟨by rfl, ?hym27⟩) ?restm27
                case hym27 => (intro w; go_simp; try with_reducible rfl)
                refine wpAny_take (i := 21) (v := ?vm28) rfl (by kernel_rfl) (by kernel_rfl) (by kernel_rfl) (fun _ _ _ h => h) (Or.inl ⟨by rfl, ?hym28⟩) ?restm28
                case hym28 => (intro w; go_simp; try with_reducible rfl)
                refine wpAny_ready (rs := [22]) (by kernel_rfl) (by simp) ?_
                refine AllReady.cons rfl (fun KK hK => ?_) AllReady.nil
                go_simp; refine hK _ _ ?_; clear hK KK
                refine wpAny_done (by kernel_rfl) ?_ _
                go_simp
                go_wp2
                go_ret
                exact ⟨rfl, HK.out.1, HK.out.2⟩
              refine AllReady.cons rfl (fun KK hK => ?_) AllReady.nil
              go_simp; refine hK _ _ ?_; clear hK KK
              refine wpAny_take (i := 18) (v := ?vm29) rfl (by kernel_rfl) (by kernel_rfl) (by kernel_rfl) (fun _ _ _ h => h) (Or.inl ⟨by rfl, ?hym29⟩) ?restm29
              case hym29 => (intro w; go_simp; try with_reducible rfl)
              refine wpAny_ready (rs := [7]) (by kernel_rfl) (by simp) ?_
              refine AllReady.cons rfl (fun KK hK => ?_) AllReady.nil
              refine step_srow rfl (.const (.slice none 0 0)) (.tmp 49) rfl w.heap.size (.slice none 0 0) [] (ys.take i) rfl (World.ownsRow_nil _ _ _ _) ⟨g, 0, none⟩ i cap (by go_simp) HT1.out HLIM.out.1 (HTO.out (w.alloc (.cells #[.int .i64 who, .int .i64 r] 66)).drew hd1) hd1.size ?_; intro s1 n1 c1 w1 ho1 hb1 hbb; have H1 : Hid (OwnS w.heap.size w1 (.slice s1 n1 c1) ([] ++ ys.take i) ∧ Below w.heap.size w w1) := ⟨ho1, hd1.trans hb1⟩; have kq1 : w1.cell? ⟨q, 0, none⟩ = some (.slice (some ⟨g, 0, none⟩) n cap) := ((hd1.trans hb1).cell (p := ⟨q, 0, none⟩) HQL.out).trans hlk; have hq1 : q < w1.heap.size := Nat.lt_of_lt_of_le HQL.out (hd1.trans hb1).size; have HONE : Hid (∀ j u, (lks [(who, r)])[j]? = some u → w1.cell? ((⟨w.heap.size, 0, none⟩ : Addr).add j) = some u) := (fun j u hj => by rw [addr_add, (hbb rfl).cell (p := ⟨w.heap.size, 0 + j, none⟩) (by show _ < (w.alloc (.cells #[.int .i64 who, .int .i64 r] 66)).heap.size; rw [alloc_size]; exact Nat.lt_succ_self _), ← addr_add]; exact one_cells w (who, r) j u hj); clear ho1 hb1 hbb; go_simp; refine hK _ _ ?_; clear hK KK
              refine wpAny_ready (rs := [12]) (by kernel_rfl) (by simp) ?_
              refine AllReady.cons rfl (fun KK hK => ?_) AllReady.nil
              refine step_srow rfl (.tmp 50) (.tmp 54) rfl w.heap.size (.slice s1 n1 c1) ([] ++ ys.take i) [(who, r)] (by go_simp) H1.out.1 ⟨w.heap.size, 0, none⟩ 1 1 (by go_simp) rfl HLIM.out.2.1 HONE.out H1.out.2.size ?_; intro s2 n2 c2 w2 ho2 hb2 _; have H2 : Hid (OwnS w.heap.size w2 (.slice s2 n2 c2) (([] ++ ys.take i) ++ [(who, r)]) ∧ Below w.heap.size w w2) := ⟨ho2, H1.out.2.trans hb2⟩; have kq2 : w2.cell? ⟨q, 0, none⟩ = some (.slice (some ⟨g, 0, none⟩) n cap) := (H2.out.2.cell (p := ⟨q, 0, none⟩) HQL.out).trans hlk; clear ho2 hb2; go_simp; refine hK _ _ ?_; clear hK KK
              refine wpAny_ready (rs := [19]) (by kernel_rfl) (by simp) ?_
              refine AllReady.cons rfl (fun KK hK => ?_) AllReady.nil
              refine step_srow rfl (.tmp 55) (.tmp 61) rfl w.heap.size (.slice s2 n2 c2) (([] ++ ys.take i) ++ [(who, r)]) (ys.drop i) (by go_simp) H2.out.1 AD (n - i) (cap - i) (by go_simp) HT2.out HLIM.out.2.2 (HAD.out w2 H2.out.2) H2.out.2.size ?_; intro s3 n3 c3 w3 ho3 hb3 _; obtain ⟨q3, f3, k3, b3⟩ := HEND.out s3 n3 c3 w3 (by rw [← HSP.out]; exact ho3) (H2.out.2.trans hb3); have HK : Hid (KR B (w3.setCell ⟨q, 0, none⟩ (.slice s3 n3 c3)) q (ys.take i ++ (who, r) :: ys.drop i) ∧ Buts [q] w (w3.setCell ⟨q, 0, none⟩ (.slice s3 n3 c3))) := ⟨k3, b3⟩; clear k3 b3 ho3 hb3; go_simp; refine hK _ _ ?_; clear hK KK
              refine wpAny_take (i := 20) (v := ?vm30) rfl (by kernel_rfl) (by kernel_rfl) (by kernel_rfl) (fun _ _ _ h => h) (Or.inl ⟨by rfl, ?hym30⟩) ?restm30
              case hym30 => (intro w; go_simp; try with_reducible rfl)
              refine wpAny_take (i := 21) (v := ?vm31) rfl (by kernel_rfl) (by kernel_rfl) (by kernel_rfl) (fun _ _ _ h => h) (Or.inl ⟨by rfl, ?hym31⟩) ?restm31
              case hym31 => (intro w; go_simp; try with_reducible rfl)
              refine wpAny_ready (rs := [22]) (by kernel_rfl) (by simp) ?_
              refine AllReady.cons rfl (fun KK hK => ?_) AllReady.nil
              go_simp; refine hK _ _ ?_; clear hK KK
              refine wpAny_done (by kernel_rfl) ?_ _
              go_simp
              go_wp2
              go_ret
              exact ⟨rfl, HK.out.1, HK.out.2⟩
            refine AllReady.cons rfl (fun KK hK => ?_) AllReady.nil
            go_simp; refine hK _ _ ?_; clear hK KK
            refine wpAny_take (i := 18) (v := ?vm32) rfl (by kernel_rfl) (by kernel_rfl) (by kernel_rfl) (fun _ _ _ h => h) (Or.inl ⟨by rfl, ?hym32⟩) ?restm32
            case hym32 => (intro w; go_simp; try with_reducible rfl)
            refine wpAny_ready (rs := [7, 11]) (by kernel_rfl) (by simp) ?_
            refine AllReady.cons rfl (fun KK hK => ?_) ?_
            · refine step_srow rfl (.const (.slice none 0 0)) (.tmp 49) rfl w.heap.size (.slice none 0 0) [] (ys.take i) rfl (World.ownsRow_nil _ _ _ _) ⟨g, 0, none⟩ i cap (by go_simp) HT1.out HLIM.out.1 (HTO.out w.drew hd0) hd0.size ?_; intro s1 n1 c1 w1 ho1 hb1 hbb; have H1 : Hid (OwnS w.heap.size w1 (.slice s1 n1 c1) ([] ++ ys.take i) ∧ Below w.heap.size w w1) := ⟨ho1, hd0.trans hb1⟩; have kq1 : w1.cell? ⟨q, 0, none⟩ = some (.slice (some ⟨g, 0, none⟩) n cap) := ((hd0.trans hb1).cell (p := ⟨q, 0, none⟩) HQL.out).trans hlk; have hq1 : q < w1.heap.size := Nat.lt_of_lt_of_le HQL.out (hd0.trans hb1).size; clear ho1 hb1 hbb; go_simp; refine hK _ _ ?_; clear hK KK
              refine wpAny_ready (rs := [11]) (by kernel_rfl) (by simp) ?_
              refine AllReady.cons rfl (fun KK hK => ?_) AllReady.nil
              go_simp; refine hK _ _ ?_; clear hK KK
              refine wpAny_ready (rs := [12]) (by kernel_rfl) (by simp) ?_
              refine AllReady.cons rfl (fun KK hK => ?_) AllReady.nil
              refine step_srow rfl (.tmp 50) (.tmp 54) rfl w.heap.size (.slice s1 n1 c1) ([] ++ ys.take i) [(who, r)] (by go_simp) (H1.out.1.below (alloc_below w1 _)) ⟨w1.heap.size, 0, none⟩ 1 1 (by go_simp) rfl HLIM.out.2.1 (one_cells w1 (who, r)) (Nat.le_trans H1.out.2.size (alloc_below w1 _).size) ?_; intro s2 n2 c2 w2 ho2 hb2 _; have H2 : Hid (OwnS w.heap.size w2 (.slice s2 n2 c2) (([] ++ ys.take i) ++ [(who, r)]) ∧ Below w.heap.size w w2) := ⟨ho2, (H1.out.2.trans ((alloc_below w1 _).mono H1.out.2.size)).trans hb2⟩; have kq2 : w2.cell? ⟨q, 0, none⟩ = some (.slice (some ⟨g, 0, none⟩) n cap) := (H2.out.2.cell (p := ⟨q, 0, none⟩) HQL.out).trans hlk; clear ho2 hb2; go_simp; refine hK _ _ ?_; clear hK KK
              refine wpAny_ready (rs := [19]) (by kernel_rfl) (by simp) ?_
              refine AllReady.cons rfl (fun KK hK => ?_) AllReady.nil
              refine step_srow rfl (.tmp 55) (.tmp 61) rfl w.heap.size (.slice s2 n2 c2) (([] ++ ys.take i) ++ [(who, r)]) (ys.drop i) (by go_simp) H2.out.1 AD (n - i) (cap - i) (by go_simp) HT2.out HLIM.out.2.2 (HAD.out w2 H2.out.2) H2.out.2.size ?_; intro s3 n3 c3 w3 ho3 hb3 _; obtain ⟨q3, f3, k3, b3⟩ := HEND.out s3 n3 c3 w3 (by rw [← HSP.out]; exact ho3) (H2.out.2.trans hb3); have HK : Hid (KR B (w3.setCell ⟨q, 0, none⟩ (.slice s3 n3 c3)) q (ys.take i ++ (who, r) :: ys.drop i) ∧ Buts [q] w (w3.setCell ⟨q, 0, none⟩ (.slice s3 n3 c3))) := ⟨k3, b3⟩; clear k3 b3 ho3 hb3; go_simp; refine hK _ _ ?_; clear hK KK
              refine wpAny_take (i := 20) (v := ?vm33) rfl (by kernel_rfl) (by kernel_rfl) (by kernel_rfl) (fun _ _ _ h => h) (Or.inl ⟨by rfl, ?hym33⟩) ?restm33
              case hym33 => (intro w; go_simp; try with_reducible rfl)
              refine wpAny_take (i := 21) (v := ?vm34) rfl (by kernel_rfl) (by kernel_rfl) (by kernel_rfl) (fun _ _ _ h => h) (Or.inl ⟨by rfl, ?hym34⟩) ?restm34
              case hym34 => (intro w; go_simp; try with_reducible rfl)
              refine wpAny_ready (rs := [22]) (by kernel_rfl) (by simp) ?_
              refine AllReady.cons rfl (fun KK hK => ?_) AllReady.nil
              go_simp; refine hK _ _ ?_; clear hK KK
              refine wpAny_done (by kernel_rfl) ?_ _
              go_simp
              go_wp2
              go_ret
              exact ⟨rfl, HK.out.1, HK.out.2⟩
            refine AllReady.cons rfl (fun KK hK => ?_) AllReady.nil
            go_simp; refine hK _ _ ?_; clear hK KK
            refine wpAny_ready (rs := [7]) (by kernel_rfl) (by simp) ?_
            refine AllReady.cons rfl (fun KK hK => ?_) AllReady.nil
            refine step_srow rfl (.const (.slice none 0 0)) (.tmp 49) rfl w.heap.size (.slice none 0 0) [] (ys.take i) rfl (World.ownsRow_nil _ _ _ _) ⟨g, 0, none⟩ i cap (by go_simp) HT1.out HLIM.out.1 (HTO.out (w.alloc (.cells #[.int .i64 who, .int .i64 r] 66)).drew hd1) hd1.size ?_; intro s1 n1 c1 w1 ho1 hb1 hbb; have H1 : Hid (OwnS w.heap.size w1 (.slice s1 n1 c1) ([] ++ ys.take i) ∧ Below w.heap.size w w1) := ⟨ho1, hd1.trans hb1⟩; have kq1 : w1.cell? ⟨q, 0, none⟩ = some (.slice (some ⟨g, 0, none⟩) n cap) := ((hd1.trans hb1).cell (p := ⟨q, 0, none⟩) HQL.out).trans hlk; have hq1 : q < w1.heap.size := Nat.lt_of_lt_of_le HQL.out (hd1.trans hb1).size; have HONE : Hid (∀ j u, (lks [(who, r)])[j]? = some u → w1.cell? ((⟨w.heap.size, 0, none⟩ : Addr).add j) = some u) := (fun j u hj => by rw [addr_add, (hbb rfl).cell (p := ⟨w.heap.size, 0 + j, none⟩) (by show _ < (w.alloc (.cells #[.int .i64 who, .int .i64 r] 66)).heap.size; rw [alloc_size]; exact Nat.lt_succ_self _), ← addr_add]; exact one_cells w (who, r) j u hj); clear ho1 hb1 hbb; go_simp; refine hK _ _ ?_; clear hK KK
            refine wpAny_ready (rs := [12]) (by kernel_rfl) (by simp) ?_
            refine AllReady.cons rfl (fun KK hK => ?_) AllReady.nil
            refine step_srow rfl (.tmp 50) (.tmp 54) rfl w.heap.size (.slice s1 n1 c1) ([] ++ ys.take i) [(who, r)] (by go_simp) H1.out.1 ⟨w.heap.size, 0, none⟩ 1 1 (by go_simp) rfl HLIM.out.2.1 HONE.out H1.out.2.size ?_; intro s2 n2 c2 w2 ho2 hb2 _; have H2 : Hid (OwnS w.heap.size w2 (.slice s2 n2 c2) (([] ++ ys.take i) ++ [(who, r)]) ∧ Below w.heap.size w w2) := ⟨ho2, H1.out.2.trans hb2⟩; have kq2 : w2.cell? ⟨q, 0, none⟩ = some (.slice (some ⟨g, 0, none⟩) n cap) := (H2.out.2.cell (p := ⟨q, 0, none⟩) HQL.out).trans hlk; clear ho2 hb2; go_simp; refine hK _ _ ?_; clear hK KK
            refine wpAny_ready (rs := [19]) (by kernel_rfl) (by simp) ?_
            refine AllReady.cons rfl (fun KK hK => ?_) AllReady.nil
            refine step_srow rfl (.tmp 55) (.tmp 61) rfl w.heap.size (.slice s2 n2 c2) (([] ++ ys.take i) ++ [(who, r)]) (ys.drop i) (by go_simp) H2.out.1 AD (n - i) (cap - i) (by go_simp) HT2.out HLIM.out.2.2 (HAD.out w2 H2.out.2) H2.out.2.size ?_; intro s3 n3 c3 w3 ho3 hb3 _; obtain ⟨q3, f3, k3, b3⟩ := HEND.out s3 n3 c3 w3 (by rw [← HSP.out]; exact ho3) (H2.out.2.trans hb3); have HK : Hid (KR B (w3.setCell ⟨q, 0, none⟩ (.slice s3 n3 c3)) q (ys.take i ++ (who, r) :: ys.drop i) ∧ Buts [q] w (w3.setCell ⟨q, 0, none⟩ (.slice s3 n3 c3))) := ⟨k3, b3⟩; clear k3 b3 ho3 hb3; go_simp; refine hK _ _ ?_; clear hK KK
            refine wpAny_take (i := 20) (v := ?vm35) rfl (by kernel_rfl) (by kernel_rfl) (by kernel_rfl) (fun _ _ _ h => h) (Or.inl ⟨by rfl, ?hym35⟩) ?restm35
            case hym35 => (intro w; go_simp; try with_reducible rfl)
            refine wpAny_take (i := 21) (v := ?vm36) rfl (by kernel_rfl) (by kernel_rfl) (by kernel_rfl) (fun _ _ _ h => h) (Or.inl ⟨by rfl, ?hym36⟩) ?restm36
            case hym36 => (intro w; go_simp; try with_reducible rfl)
            refine wpAny_ready (rs := [22]) (by kernel_rfl) (by simp) ?_
            refine AllReady.cons rfl (fun KK hK => ?_) AllReady.nil
            go_simp; refine hK _ _ ?_; clear hK KK
            refine wpAny_done (by kernel_rfl) ?_ _
            go_simp
            go_wp2
            go_ret
            exact ⟨rfl, HK.out.1, HK.out.2⟩
          refine AllReady.cons rfl (fun KK hK => ?_) ?_
          · go_simp; refine hK _ _ ?_; clear hK KK
            refine wpAny_ready (rs := [4, 16]) (by kernel_rfl) (by simp) ?_
            refine AllReady.cons rfl (fun KK hK => ?_) ?_
            · go_simp; refine hK _ _ ?_; clear hK KK
              refine wpAny_take (i := 6) (v := ?vm37) rfl (by kernel_rfl) (by kernel_rfl) (by kernel_rfl) (fun _ _ _ h => h) (Or.inl ⟨by rfl, ?hym37⟩) ?restm37
              case hym37 => (intro w; go_simp; try with_reducible rfl)
              refine wpAny_ready (rs := [7, 16]) (by kernel_rfl) (by simp) ?_
              refine AllReady.cons rfl (fun KK hK => ?_) ?_
              · refine step_srow rfl (.const (.slice none 0 0)) (.tmp 49) rfl w.heap.size (.slice none 0 0) [] (ys.take i) rfl (World.ownsRow_nil _ _ _ _) ⟨g, 0, none⟩ i cap (by go_simp) HT1.out HLIM.out.1 (HTO.out (w.alloc (.cells #[.int .i64 who, .int .i64 r] 66)).drew hd1) hd1.size ?_; intro s1 n1 c1 w1 ho1 hb1 hbb; have H1 : Hid (OwnS w.heap.size w1 (.slice s1 n1 c1) ([] ++ ys.take i) ∧ Below w.heap.size w w1) := ⟨ho1, hd1.trans hb1⟩; have kq1 : w1.cell? ⟨q, 0, none⟩ = some (.slice (some ⟨g, 0, none⟩) n cap) := ((hd1.trans hb1).cell (p := ⟨q, 0, none⟩) HQL.out).trans hlk; have hq1 : q < w1.heap.size := Nat.lt_of_lt_of_le HQL.out (hd1.trans hb1).size; have HONE : Hid (∀ j u, (lks [(who, r)])[j]? = some u → w1.cell? ((⟨w.heap.size, 0, none⟩ : Addr).add j) = some u) := (fun j u hj => by rw [addr_add, (hbb rfl).cell (p := ⟨w.heap.size, 0 + j, none⟩) (by show _ < (w.alloc (.cells #[.int .i64 who, .int .i64 r] 66)).heap.size; rw [alloc_size]; exact Nat.lt_succ_self _), ← addr_add]; exact one_cells w (who, r) j u hj); clear ho1 hb1 hbb; go_simp; refine hK _ _ ?_; clear hK KK
                refine wpAny_ready (rs := [12, 16]) (by kernel_rfl) (by simp) ?_
                refine AllReady.cons rfl (fun KK hK => ?_) ?_
                · refine step_srow rfl (.tmp 50) (.tmp 54) rfl w.heap.size (.slice s1 n1 c1) ([] ++ ys.take i) [(who, r)] (by go_simp) H1.out.1 ⟨w.heap.size, 0, none⟩ 1 1 (by go_simp) rfl HLIM.out.2.1 HONE.out H1.out.2.size ?_; intro s2 n2 c2 w2 ho2 hb2 _; have H2 : Hid (OwnS w.heap.size w2 (.slice s2 n2 c2) (([] ++ ys.take i) ++ [(who, r)]) ∧ Below w.heap.size w w2) := ⟨ho2, H1.out.2.trans hb2⟩; have kq2 : w2.cell? ⟨q, 0, none⟩ = some (.slice (some ⟨g, 0, none⟩) n cap) := (H2.out.2.cell (p := ⟨q, 0, none⟩) HQL.out).trans hlk; clear ho2 hb2; go_simp; refine hK _ _ ?_; clear hK KK
                  refine wpAny_ready (rs := [16]) (by kernel_rfl) (by simp) ?_
                  refine AllReady.cons rfl (fun KK hK => ?_) AllReady.nil
                  go_simp; refine hK _ _ ?_; clear hK KK
                  refine wpAny_take (i := 18) (v := ?vm38) rfl (by kernel_rfl) (by kernel_rfl) (by kernel_rfl) (fun _ _ _ h => h) (Or.inl ⟨by rfl, ?hym38⟩) ?restm38
                  case hym38 => (intro w; go_simp; try with_reducible rfl)
                  refine wpAny_ready (rs := [19]) (by kernel_rfl) (by simp) ?_
                  refine AllReady.cons rfl (fun KK hK => ?_) AllReady.nil
                  refine step_srow rfl (.tmp 55) (.tmp 61) rfl w.heap.size (.slice s2 n2 c2) (([] ++ ys.take i) ++ [(who, r)]) (ys.drop i) (by go_simp) H2.out.1 AD (n - i) (cap - i) (by go_simp) HT2.out HLIM.out.2.2 (HAD.out w2 H2.out.2) H2.out.2.size ?_; intro s3 n3 c3 w3 ho3 hb3 _; obtain ⟨q3, f3, k3, b3⟩ := HEND.out s3 n3 c3 w3 (by rw [← HSP.out]; exact ho3) (H2.out.2.trans hb3); have HK : Hid (KR B (w3.setCell ⟨q, 0, none⟩ (.slice s3 n3 c3)) q (ys.take i ++ (who, r) :: ys.drop i) ∧ Buts [q] w (w3.setCell ⟨q, 0, none⟩ (.slice s3 n3 c3))) := ⟨k3, b3⟩; clear k3 b3 ho3 hb3; go_simp; refine hK _ _ ?_; clear hK KK
                  refine wpAny_take (i := 20) (v := ?vm39) rfl (by kernel_rfl) (by kernel_rfl) (by kernel_rfl) (fun _ _ _ h => h) (Or.inl ⟨by rfl, ?hym39⟩) ?restm39
                  case hym39 => (intro w; go_simp; try with_reducible rfl)
                  refine wpAny_take (i := 21) (v := ?vm40) rfl (by kernel_rfl) (by kernel_rfl) (by kernel_rfl) (fun _ _ _ h => h) (Or.inl ⟨by rfl, ?hym40⟩) ?restm40
                  case hym40 => (intro w; go_simp; try with_reducible rfl)
                  refine wpAny_ready (rs := [22]) (by kernel_rfl) (by simp) ?_
                  refine AllReady.cons rfl (fun KK hK => ?_) AllReady.nil
                  go_simp; refine hK _ _ ?_; clear hK KK
                  refine wpAny_done (by kernel_rfl) ?_ _
                  go_simp
                  go_wp2
                  go_ret
                  exact ⟨rfl, HK.out.1, HK.out.2⟩
                refine AllReady.cons rfl (fun KK hK => ?_) AllReady.nil
                go_simp; refine hK _ _ ?_; clear hK KK
                refine wpAny_take (i := 18) (v := ?vm41) rfl (by kernel_rfl) (by kernel_rfl) (by kernel_rfl) (fun _ _ _ h => h) (Or.inl ⟨by rfl, ?hym41⟩) ?restm41
                case hym41 => (intro w; go_simp; try with_reducible rfl)
                refine wpAny_ready (rs := [12]) (by kernel_rfl) (by simp) ?_
                refine AllReady.cons rfl (fun KK hK => ?_) AllReady.nil
                refine step_srow rfl (.tmp 50) (.tmp 54) rfl w.heap.size (.slice s1 n1 c1) ([] ++ ys.take i) [(who, r)] (by go_simp) H1.out.1 ⟨w.heap.size, 0, none⟩ 1 1 (by go_simp) rfl HLIM.out.2.1 HONE.out H1.out.2.size ?_; intro s2 n2 c2 w2 ho2 hb2 _; have H2 : Hid (OwnS w.heap.size w2 (.slice s2 n2 c2) (([] ++ ys.take i) ++ [(who, r)]) ∧ Below w.heap.size w w2) := ⟨ho2, H1.out.2.trans hb2⟩; have kq2 : w2.cell? ⟨q, 0, none⟩ = some (.slice (some ⟨g, 0, none⟩) n cap) := (H2.out.2.cell (p := ⟨q, 0, none⟩) HQL.out).trans hlk; clear ho2 hb2; go_simp; refine hK _ _ ?_; clear hK KK
                refine wpAny_ready (rs := [19]) (by kernel_rfl) (by simp) ?_
                refine AllReady.cons rfl (fun KK hK => ?_) AllReady.nil
                refine step_srow rfl (.tmp 55) (.tmp 61) rfl w.heap.size (.slice s2 n2 c2) (([] ++ ys.take i) ++ [(who, r)]) (ys.drop i) (by go_simp) H2.out.1 AD (n - i) (cap - i) (by go_simp) HT2.out HLIM.out.2.2 (HAD.out w2 H2.out.2) H2.out.2.size ?_; intro s3 n3 c3 w3 ho3 hb3 _; obtain ⟨q3, f3, k3, b3⟩ := HEND.out s3 n3 c3 w3 (by rw [← HSP.out]; exact ho3) (H2.out.2.trans hb3); have HK : Hid (KR B (w3.setCell ⟨q, 0, none⟩ (.slice s3 n3 c3)) q (ys.take i ++ (who, r) :: ys.drop i) ∧ Buts [q] w (w3.setCell ⟨q, 0, none⟩ (.slice s3 n3 c3))) := ⟨k3, b3⟩; clear k3 b3 ho3 hb3; go_simp; refine hK _ _ ?_; clear hK KK
                refine wpAny_take (i := 20) (v := ?vm42) rfl (by kernel_rfl) (by kernel_rfl) (by kernel_rfl) (fun _ _ _ h => h) (Or.inl ⟨by rfl, ?hym42⟩) ?restm42
                case hym42 => (intro w; go_simp; try with_reducible rfl)
                refine wpAny_take (i := 21) (v := ?vm43) rfl (by kernel_rfl) (by kernel_rfl) (by kernel_rfl) (fun _ _ _ h => h) (Or.inl ⟨by rfl, ?hym43⟩) ?restm43
                case hym43 => (intro w; go_simp; try with_reducible rfl)
                refine wpAny_ready (rs := [22]) (by kernel_rfl) (by simp) ?_
                refine AllReady.cons rfl (fun KK hK => ?_) AllReady.nil
                go_simp; refine hK _ _ ?_; clear hK KK
                refine wpAny_done (by kernel_rfl) ?_ _
                go_simp
                go_wp2
                go_ret
                exact ⟨rfl, HK.out.1, HK.out.2⟩
              refine AllReady.cons rfl (fun KK hK => ?_) AllReady.nil
              go_simp; refine hK _ _ ?_; clear hK KK
              refine wpAny_take (i := 18) (v := ?vm44) rfl (by kernel_rfl) (by kernel_rfl) (by kernel_rfl) (fun _ _ _ h => h) (Or.inl ⟨by rfl, ?hym44⟩) ?restm44
              case hym44 => (intro w; go_simp; try with_reducible rfl)
              refine wpAny_ready (rs := [7]) (by kernel_rfl) (by simp) ?_
              refine AllReady.cons rfl (fun KK hK => ?_) AllReady.nil
              refine step_srow rfl (.const (.slice none 0 0)) (.tmp 49) rfl w.heap.size (.slice none 0 0) [] (ys.take i) rfl (World.ownsRow_nil _ _ _ _) ⟨g, 0, none⟩ i cap (by go_simp) HT1.out HLIM.out.1 (HTO.out (w.alloc (.cells #[.int .i64 who, .int .i64 r] 66)).drew hd1) hd1.size ?_; intro s1 n1 c1 w1 ho1 hb1 hbb; have H1 : Hid (OwnS w.heap.size w1 (.slice s1 n1 c1) ([] ++ ys.take i) ∧ Below w.heap.size w w1) := ⟨ho1, hd1.trans hb1⟩; have kq1 : w1.cell? ⟨q, 0, none⟩ = some (.slice (some ⟨g, 0, none⟩) n cap) := ((hd1.trans hb1).cell (p := ⟨q, 0, none⟩) HQL.out).trans hlk; have hq1 : q < w1.heap.size := Nat.lt_of_lt_of_le HQL.out (hd1.trans hb1).size; have HONE : Hid (∀ j u, (lks [(who, r)])[j]? = some u → w1.cell? ((⟨w.heap.size, 0, none⟩ : Addr).add j) = some u) := (fun j u hj => by rw [addr_add, (hbb rfl).cell (p := ⟨w.heap.size, 0 + j, none⟩) (by show _ < (w.alloc (.cells #[.int .i64 who, .int .i64 r] 66)).heap.size; rw [alloc_size]; exact Nat.lt_succ_self _), ← addr_add]; exact one_cells w (who, r) j u hj); clear ho1 hb1 hbb; go_simp; refine hK _ _ ?_; clear hK KK
              refine wpAny_ready (rs := [12]) (by kernel_rfl) (by simp) ?_
              refine AllReady.cons rfl (fun KK hK => ?_) AllReady.nil
              refine step_srow rfl (.tmp 50) (.tmp 54) rfl w.heap.size (.slice s1 n1 c1) ([] ++ ys.take i) [(who, r)] (by go_simp) H1.out.1 ⟨w.heap.size, 0, none⟩ 1 1 (by go_simp) rfl HLIM.out.2.1 HONE.out H1.out.2.size ?_; intro s2 n2 c2 w2 ho2 hb2 _; have H2 : Hid (OwnS w.heap.size w2 (.slice s2 n2 c2) (([] ++ ys.take i) ++ [(who, r)]) ∧ Below w.heap.size w w2) := ⟨ho2, H1.out.2.trans hb2⟩; have kq2 : w2.cell? ⟨q, 0, none⟩ = some (.slice (some ⟨g, 0, none⟩) n cap) := (H2.out.2.cell (p := ⟨q, 0, none⟩) HQL.out).trans hlk; clear ho2 hb2; go_simp; refine hK _ _ ?_; clear hK KK
              refine wpAny_ready (rs := [19]) (by kernel_rfl) (by simp) ?_
              refine AllReady.cons rfl (fun KK hK => ?_) AllReady.nil
              refine step_srow rfl (.tmp 55) (.tmp 61) rfl w.heap.size (.slice s2 n2 c2) (([] ++ ys.take i) ++ [(who, r)]) (ys.drop i) (by go_simp) H2.out.1 AD (n - i) (cap - i) (by go_simp) HT2.out HLIM.out.2.2 (HAD.out w2 H2.out.2) H2.out.2.size ?_; intro s3 n3 c3 w3 ho3 hb3 _; obtain ⟨q3, f3, k3, b3⟩ := HEND.out s3 n3 c3 w3 (by rw [← HSP.out]; exact ho3) (H2.out.2.trans hb3); have HK : Hid (KR B (w3.setCell ⟨q, 0, none⟩ (.slice s3 n3 c3)) q (ys.take i ++ (who, r) :: ys.drop i) ∧ Buts [q] w (w3.setCell ⟨q, 0, none⟩ (.slice s3 n3 c3))) := ⟨k3, b3⟩; clear k3 b3 ho3 hb3; go_simp; refine hK _ _ ?_; clear hK KK
              refine wpAny_take (i := 20) (v := ?vm45) rfl (by kernel_rfl) (by kernel_rfl) (by kernel_rfl) (fun _ _ _ h => h) (Or.inl ⟨by rfl, ?hym45⟩) ?restm45
              case hym45 => (intro w; go_simp; try with_reducible rfl)
              refine wpAny_take (i := 21) (v := ?vm46) rfl (by kernel_rfl) (by kernel_rfl) (by kernel_rfl) (fun _ _ _ h => h) (Or.inl ⟨by rfl, ?hym46⟩) ?restm46
              case hym46 => (intro w; go_simp; try with_reducible rfl)
              refine wpAny_ready (rs := [22]) (by kernel_rfl) (by simp) ?_
              refine AllReady.cons rfl (fun KK hK => ?_) AllReady.nil
              go_simp; refine hK _ _ ?_; clear hK KK
              refine wpAny_done (by kernel_rfl) ?_ _
              go_simp
              go_wp2
              go_ret
              exact ⟨rfl, HK.out.1, HK.out.2⟩
            refine AllReady.cons rfl (fun KK hK => ?_) AllReady.nil
            go_simp; refine hK _ _ ?_; clear hK KK
            refine wpAny_take (i := 18) (v := ?vm47) rfl (by kernel_rfl) (by kernel_rfl) (by kernel_rfl) (fun _ _ _ h => h) (Or.inl ⟨by rfl, ?hym47⟩) ?restm47
            case hym47 => (intro w; go_simp; try with_reducible rfl)
            refine wpAny_ready (rs := [4]) (by kernel_rfl) (by simp) ?_
            refine AllReady.cons rfl (fun KK hK => ?_) AllReady.nil
            go_simp; refine hK _ _ ?_; clear hK KK
            refine wpAny_take (i := 6) (v := ?vm48) rfl (by kernel_rfl) (by kernel_rfl) (by kernel_rfl) (fun _ _ _ h => h) (Or.inl ⟨by rfl, ?hym48⟩) ?restm48
            case hym48 => (intro w; go_simp; try with_reducible rfl)
            refine wpAny_ready (rs := [7]) (by kernel_rfl) (by simp) ?_
            refine AllReady.cons rfl (fun KK hK => ?_) AllReady.nil
            refine step_srow rfl (.const (.slice none 0 0)) (.tmp 49) rfl w.heap.size (.slice none 0 0) [] (ys.take i) rfl (World.ownsRow_nil _ _ _ _) ⟨g, 0, none⟩ i cap (by go_simp) HT1.out HLIM.out.1 (HTO.out (w.alloc (.cells #[.int .i64 who, .int .i64 r] 66)).drew hd1) hd1.size ?_; intro s1 n1 c1 w1 ho1 hb1 hbb; have H1 : Hid (OwnS w.heap.size w1 (.slice s1 n1 c1) ([] ++ ys.take i) ∧ Below w.heap.size w w1) := ⟨ho1, hd1.trans hb1⟩; have kq1 : w1.cell? ⟨q, 0, none⟩ = some (.slice (some ⟨g, 0, none⟩) n cap) := ((hd1.trans hb1).cell (p := ⟨q, 0, none⟩) HQL.out).trans hlk; have hq1 : q < w1.heap.size := Nat.lt_of_lt_of_le HQL.out (hd1.trans hb1).size; have HONE : Hid (∀ j u, (lks [(who, r)])[j]? = some u → w1.cell? ((⟨w.heap.size, 0, none⟩ : Addr).add j) = some u) := (fun j u hj => by rw [addr_add, (hbb rfl).cell (p := ⟨w.heap.size, 0 + j, none⟩) (by show _ < (w.alloc (.cells #[.int .i64 who, .int .i64 r] 66)).heap.size; rw [alloc_size]; exact Nat.lt_succ_self _), ← addr_add]; exact one_cells w (who, r) j u hj); clear ho1 hb1 hbb; go_simp; refine hK _ _ ?_; clear hK KK
            refine wpAny_ready (rs := [12]) (by kernel_rfl) (by simp) ?_
            refine AllReady.cons rfl (fun KK hK => ?_) AllReady.nil
            refine step_srow rfl (.tmp 50) (.tmp 54) rfl w.heap.size (.slice s1 n1 c1) ([] ++ ys.take i) [(who, r)] (by go_simp) H1.out.1 ⟨w.heap.size, 0, none⟩ 1 1 (by go_simp) rfl HLIM.out.2.1 HONE.out H1.out.2.size ?_; intro s2 n2 c2 w2 ho2 hb2 _; have H2 : Hid (OwnS w.heap.size w2 (.slice s2 n2 c2) (([] ++ ys.take i) ++ [(who, r)]) ∧ Below w.heap.size w w2) := ⟨ho2, H1.out.2.trans hb2⟩; have kq2 : w2.cell? ⟨q, 0, none⟩ = some (.slice (some ⟨g, 0, none⟩) n cap) := (H2.out.2.cell (p := ⟨q, 0, none⟩) HQL.out).trans hlk; clear ho2 hb2; go_simp; refine hK _ _ ?_; clear hK KK
            refine wpAny_ready (rs := [19]) (by kernel_rfl) (by simp) ?_
            refine AllReady.cons rfl (fun KK hK => ?_) AllReady.nil
            refine step_srow rfl (.tmp 55) (.tmp 61) rfl w.heap.size (.slice s2 n2 c2) (([] ++ ys.take i) ++ [(who, r)]) (ys.drop i) (by go_simp) H2.out.1 AD (n - i) (cap - i) (by go_simp) HT2.out HLIM.out.2.2 (HAD.out w2 H2.out.2) H2.out.2.size ?_; intro s3 n3 c3 w3 ho3 hb3 _; obtain ⟨q3, f3, k3, b3⟩ := HEND.out s3 n3 c3 w3 (by rw [← HSP.out]; exact ho3) (H2.out.2.trans hb3); have HK : Hid (KR B (w3.setCell ⟨q, 0, none⟩ (.slice s3 n3 c3)) q (ys.take i ++ (who, r) :: ys.drop i) ∧ Buts [q] w (w3.setCell ⟨q, 0, none⟩ (.slice s3 n3 c3))) := ⟨k3, b3⟩; clear k3 b3 ho3 hb3; go_simp; refine hK _ _ ?_; clear hK KK
            refine wpAny_take (i := 20) (v := ?vm49) rfl (by kernel_rfl) (by kernel_rfl) (by kernel_rfl) (fun _ _ _ h => h) (Or.inl ⟨by rfl, ?hym49⟩) ?restm49
            case hym49 => (intro w; go_simp; try with_reducible rfl)
            refine wpAny_take (i := 21) (v := ?vm50) rfl (by kernel_rfl) (by kernel_rfl) (by kernel_rfl) (fun _ _ _ h => h) (Or.inl ⟨by rfl, ?hym50⟩) ?restm50
            case hym50 => (intro w; go_simp; try with_reducible rfl)
            refine wpAny_ready (rs := [22]) (by kernel_rfl) (by simp) ?_
            refine AllReady.cons rfl (fun KK hK => ?_) AllReady.nil
            go_simp; refine hK _ _ ?_; clear hK KK
            refine wpAny_done (by kernel_rfl) ?_ _
            go_simp
            go_wp2
            go_ret
            exact ⟨rfl, HK.out.1, HK.out.2⟩
          refine AllReady.cons rfl (fun KK hK => ?_) AllReady.nil
          go_simp; refine hK _ _ ?_; clear hK KK
          refine wpAny_take (i := 18) (v := ?vm51) rfl (by kernel_rfl) (by kernel_rfl) (by kernel_rfl) (fun _ _ _ h => h) (Or.inl ⟨by rfl, ?hym51⟩) ?restm51
          case hym51 => (intro w; go_simp; try with_reducible rfl)
          refine wpAny_ready (rs := [4, 11]) (by kernel_rfl) (by simp) ?_
          refine AllReady.cons rfl (fun KK hK => ?_) ?_
          · go_simp; refine hK _ _ ?_; clear hK KK
            refine wpAny_take (i := 6) (v := ?vm52) rfl (by kernel_rfl) (by kernel_rfl) (by kernel_rfl) (fun _ _ _ h => h) (Or.inl ⟨by rfl, ?hym52⟩) ?restm52
            case hym52 => (intro w; go_simp; try with_reducible rfl)
            refine wpAny_ready (rs := [7, 11]) (by kernel_rfl) (by simp) ?_
            refine AllReady.cons rfl (fun KK hK => ?_) ?_
            · refine step_srow rfl (.const (.slice none 0 0)) (.tmp 49) rfl w.heap.size (.slice none 0 0) [] (ys.take i) rfl (World.ownsRow_nil _ _ _ _) ⟨g, 0, none⟩ i cap (by go_simp) HT1.out HLIM.out.1 (HTO.out w.drew hd0) hd0.size ?_; intro s1 n1 c1 w1 ho1 hb1 hbb; have H1 : Hid (OwnS w.heap.size w1 (.slice s1 n1 c1) ([] ++ ys.take i) ∧ Below w.heap.size w w1) := ⟨ho1, hd0.trans hb1⟩; have kq1 : w1.cell? ⟨q, 0, none⟩ = some (.slice (some ⟨g, 0, none⟩) n cap) := ((hd0.trans hb1).cell (p := ⟨q, 0, none⟩) HQL.out).trans hlk; have hq1 : q < w1.heap.size := Nat.lt_of_lt_of_le HQL.out (hd0.trans hb1).size; clear ho1 hb1 hbb; go_simp; refine hK _ _ ?_; clear hK KK
              refine wpAny_ready (rs := [11]) (by kernel_rfl) (by simp) ?_
              refine AllReady.cons rfl (fun KK hK => ?_) AllReady.nil
              go_simp; refine hK _ _ ?_; clear hK KK
              refine wpAny_ready (rs := [12]) (by kernel_rfl) (by simp) ?_
              refine AllReady.cons rfl (fun KK hK => ?_) AllReady.nil
              refine step_srow rfl (.tmp 50) (.tmp 54) rfl w.heap.size (.slice s1 n1 c1) ([] ++ ys.take i) [(who, r)] (by go_simp) (H1.out.1.below (alloc_below w1 _)) ⟨w1.heap.size, 0, none⟩ 1 1 (by go_simp) rfl HLIM.out.2.1 (one_cells w1 (who, r)) (Nat.le_trans H1.out.2.size (alloc_below w1 _).size) ?_; intro s2 n2 c2 w2 ho2 hb2 _; have H2 : Hid (OwnS w.heap.size w2 (.slice s2 n2 c2) (([] ++ ys.take i) ++ [(who, r)]) ∧ Below w.heap.size w w2) := ⟨ho2, (H1.out.2.trans ((alloc_below w1 _).mono H1.out.2.size)).trans hb2⟩; have kq2 : w2.cell? ⟨q, 0, none⟩ = some (.slice (some ⟨g, 0, none⟩) n cap) := (H2.out.2.cell (p := ⟨q, 0, none⟩) HQL.out).trans hlk; clear ho2 hb2; go_simp; refine hK _ _ ?_; clear hK KK
              refine wpAny_ready (rs := [19]) (by kernel_rfl) (by simp) ?_
              refine AllReady.cons rfl (fun KK hK => ?_) AllReady.nil
              refine step_srow rfl (.tmp 55) (.tmp 61) rfl w.heap.size (.slice s2 n2 c2) (([] ++ ys.take i) ++ [(who, r)]) (ys.drop i) (by go_simp) H2.out.1 AD (n - i) (cap - i) (by go_simp) HT2.out HLIM.out.2.2 (HAD.out w2 H2.out.2) H2.out.2.size ?_; intro s3 n3 c3 w3 ho3 hb3 _; obtain ⟨q3, f3, k3, b3⟩ := HEND.out s3 n3 c3 w3 (by rw [← HSP.out]; exact ho3) (H2.out.2.trans hb3); have HK : Hid (KR B (w3.setCell ⟨q, 0, none⟩ (.slice s3 n3 c3)) q (ys.take i ++ (who, r) :: ys.drop i) ∧ Buts [q] w (w3.setCell ⟨q, 0, none⟩ (.slice s3 n3 c3))) := ⟨k3, b3⟩; clear k3 b3 ho3 hb3; go_simp; refine hK _ _ ?_; clear hK KK
              refine wpAny_take (i := 20) (v := ?vm53) rfl (by kernel_rfl) (by kernel_rfl) (by kernel_rfl) (fun _ _ _ h => h) (Or.inl ⟨by rfl, ?hym53⟩) ?restm53
              case hym53 => (intro w; go_simp; try with_reducible rfl)
              refine wpAny_take (i := 21) (v := ?vm54) rfl (by kernel_rfl) (by kernel_rfl) (by kernel_rfl) (fun _ _ _ h => h) (Or.inl ⟨by rfl, ?hym54⟩) ?restm54
              case hym54 => (intro w; go_simp; try with_reducible rfl)
              refine wpAny_ready (rs := [22]) (by kernel_rfl) (by simp) ?_
              refine AllReady.cons rfl (fun KK hK => ?_) AllReady.nil
              go_simp; refine hK _ _ ?_; clear hK KK
              refine wpAny_done (by kernel_rfl) ?_ _
              go_simp
              go_wp2
              go_ret
              exact ⟨rfl, HK.out.1, HK.out.2⟩
            refine AllReady.cons rfl (fun KK hK => ?_) AllReady.nil
            go_simp; refine hK _ _ ?_; clear hK KK
            refine wpAny_ready (rs := [7]) (by kernel_rfl) (by simp) ?_
            refine AllReady.cons rfl (fun KK hK => ?_) AllReady.nil
            refine step_srow rfl (.const (.slice none 0 0)) (.tmp 49) rfl w.heap.size (.slice none 0 0) [] (ys.take i) rfl (World.ownsRow_nil _ _ _ _) ⟨g, 0, none⟩ i cap (by go_simp) HT1.out HLIM.out.1 (HTO.out (w.alloc (.cells #[.int .i64 who, .int .i64 r] 66)).drew hd1) hd1.size ?_; intro s1 n1 c1 w1 ho1 hb1 hbb; have H1 : Hid (OwnS w.heap.size w1 (.slice s1 n1 c1) ([] ++ ys.take i) ∧ Below w.heap.size w w1) := ⟨ho1, hd1.trans hb1⟩; have kq1 : w1.cell? ⟨q, 0, none⟩ = some (.slice (some ⟨g, 0, none⟩) n cap) := ((hd1.trans hb1).cell (p := ⟨q, 0, none⟩) HQL.out).trans hlk; have hq1 : q < w1.heap.size := Nat.lt_of_lt_of_le HQL.out (hd1.trans hb1).size; have HONE : Hid (∀ j u, (lks [(who, r)])[j]? = some u → w1.cell? ((⟨w.heap.size, 0, none⟩ : Addr).add j) = some u) := (fun j u hj => by rw [addr_add, (hbb rfl).cell (p := ⟨w.heap.size, 0 + j, none⟩) (by show _ < (w.alloc (.cells #[.int .i64 who, .int .i64 r] 66)).heap.size; rw [alloc_size]; exact Nat.lt_succ_self _), ← addr_add]; exact one_cells w (who, r) j u hj); clear ho1 hb1 hbb; go_simp; refine hK _ _ ?_; clear hK KK
            refine wpAny_ready (rs := [12]) (by kernel_rfl) (by simp) ?_
            refine AllReady.cons rfl (fun KK hK => ?_) AllReady.nil
            refine step_srow rfl (.tmp 50) (.tmp 54) rfl w.heap.size (.slice s1 n1 c1) ([] ++ ys.take i) [(who, r)] (by go_simp) H1.out.1 ⟨w.heap.size, 0, none⟩ 1 1 (by go_simp) rfl HLIM.out.2.1 HONE.out H1.out.2.size ?_; intro s2 n2 c2 w2 ho2 hb2 _; have H2 : Hid (OwnS w.heap.size w2 (.slice s2 n2 c2) (([] ++ ys.take i) ++ [(who, r)]) ∧ Below w.heap.size w w2) := ⟨ho2, H1.out.2.trans hb2⟩; have kq2 : w2.cell? ⟨q, 0, none⟩ = some (.slice (some ⟨g, 0, none⟩) n cap) := (H2.out.2.cell (p := ⟨q, 0, none⟩) HQL.out).trans hlk; clear ho2 hb2; go_simp; refine hK _ _ ?_; clear hK KK
            refine wpAny_ready (rs := [19]) (by kernel_rfl) (by simp) ?_
            refine AllReady.cons rfl (fun KK hK => ?_) AllReady.nil
            refine step_srow rfl (.tmp 55) (.tmp 61) rfl w.heap.size (.slice s2 n2 c2) (([] ++ ys.take i) ++ [(who, r)]) (ys.drop i) (by go_simp) H2.out.1 AD (n - i) (cap - i) (by go_simp) HT2.out HLIM.out.2.2 (HAD.out w2 H2.out.2) H2.out.2.size ?_; intro s3 n3 c3 w3 ho3 hb3 _; obtain ⟨q3, f3, k3, b3⟩ := HEND.out s3 n3 c3 w3 (by rw [← HSP.out]; exact ho3) (H2.out.2.trans hb3); have HK : Hid (KR B (w3.setCell ⟨q, 0, none⟩ (.slice s3 n3 c3)) q (ys.take i ++ (who, r) :: ys.drop i) ∧ Buts [q] w (w3.setCell ⟨q, 0, none⟩ (.slice s3 n3 c3))) := ⟨k3, b3⟩; clear k3 b3 ho3 hb3; go_simp; refine hK _ _ ?_; clear hK KK
            refine wpAny_take (i := 20) (v := ?vm55) rfl (by kernel_rfl) (by kernel_rfl) (by kernel_rfl) (fun _ _ _ h => h) (Or.inl ⟨by rfl, ?hym55⟩) ?restm55
            case hym55 => (intro w; go_simp; try with_reducible rfl)
            refine wpAny_take (i := 21) (v := ?vm56) rfl (by kernel_rfl) (by kernel_rfl) (by kernel_rfl) (fun _ _ _ h => h) (Or.inl ⟨by rfl, ?hym56⟩) ?restm56
            case hym56 => (intro w; go_simp; try with_reducible rfl)
            refine wpAny_ready (rs := [22]) (by kernel_rfl) (by simp) ?_
            refine AllReady.cons rfl (fun KK hK => ?_) AllReady.nil
            go_simp; refine hK _ _ ?_; clear hK KK
            refine wpAny_done (by kernel_rfl) ?_ _
            go_simp
            go_wp2
            go_ret
            exact ⟨rfl, HK.out.1, HK.out.2⟩
          refine AllReady.cons rfl (fun KK hK => ?_) AllReady.nil
          go_simp; refine hK _ _ ?_; clear hK KK
          refine wpAny_ready (rs := [4]) (by kernel_rfl) (by simp) ?_
          refine AllReady.cons rfl (fun KK hK => ?_) AllReady.nil
          go_simp; refine hK _ _ ?_; clear hK KK
          refine wpAny_take (i := 6) (v := ?vm57) rfl (by kernel_rfl) (by kernel_rfl) (by kernel_rfl) (fun _ _ _ h => h) (Or.inl ⟨by rfl, ?hym57⟩) ?restm57
          case hym57 => (intro w; go_simp; try with_reducible rfl)
          refine wpAny_ready (rs := [7]) (by kernel_rfl) (by simp) ?_
          refine AllReady.cons rfl (fun KK hK => ?_) AllReady.nil
          refine step_srow rfl (.const (.slice none 0 0)) (.tmp 49) rfl w.heap.size (.slice none 0 0) [] (ys.take i) rfl (World.ownsRow_nil _ _ _ _) ⟨g, 0, none⟩ i cap (by go_simp) HT1.out HLIM.out.1 (HTO.out (w.alloc (.cells #[.int .i64 who, .int .i64 r] 66)).drew hd1) hd1.size ?_; intro s1 n1 c1 w1 ho1 hb1 hbb; have H1 : Hid (OwnS w.heap.size w1 (.slice s1 n1 c1) ([] ++ ys.take i) ∧ Below w.heap.size w w1) := ⟨ho1, hd1.trans hb1⟩; have kq1 : w1.cell? ⟨q, 0, none⟩ = some (.slice (some ⟨g, 0, none⟩) n cap) := ((hd1.trans hb1).cell (p := ⟨q, 0, none⟩) HQL.out).trans hlk; have hq1 : q < w1.heap.size := Nat.lt_of_lt_of_le HQL.out (hd1.trans hb1).size; have HONE : Hid (∀ j u, (lks [(who, r)])[j]? = some u → w1.cell? ((⟨w.heap.size, 0, none⟩ : Addr).add j) = some u) := (fun j u hj => by rw [addr_add, (hbb rfl).cell (p := ⟨w.heap.size, 0 + j, none⟩) (by show _ < (w.alloc (.cells #[.int .i64 who, .int .i64 r] 66)).heap.size; rw [alloc_size]; exact Nat.lt_succ_self _), ← addr_add]; exact one_cells w (who, r) j u hj); clear ho1 hb1 hbb; go_simp; refine hK _ _ ?_; clear hK KK
          refine wpAny_ready (rs := [12]) (by kernel_rfl) (by simp) ?_
          refine AllReady.cons rfl (fun KK hK => ?_) AllReady.nil
          refine step_srow rfl (.tmp 50) (.tmp 54) rfl w.heap.size (.slice s1 n1 c1) ([] ++ ys.take i) [(who, r)] (by go_simp) H1.out.1 ⟨w.heap.size, 0, none⟩ 1 1 (by go_simp) rfl HLIM.out.2.1 HONE.out H1.out.2.size ?_; intro s2 n2 c2 w2 ho2 hb2 _; have H2 : Hid (OwnS w.heap.size w2 (.slice s2 n2 c2) (([] ++ ys.take i) ++ [(who, r)]) ∧ Below w.heap.size w w2) := ⟨ho2, H1.out.2.trans hb2⟩; have kq2 : w2.cell? ⟨q, 0, none⟩ = some (.slice (some ⟨g, 0, none⟩) n cap) := (H2.out.2.cell (p := ⟨q, 0, none⟩) HQL.out).trans hlk; clear ho2 hb2; go_simp; refine hK _ _ ?_; clear hK KK
          refine wpAny_ready (rs := [19]) (by kernel_rfl) (by simp) ?_
          refine AllReady.cons rfl (fun KK hK => ?_) AllReady.nil
          refine step_srow rfl (.tmp 55) (.tmp 61) rfl w.heap.size (.slice s2 n2 c2) (([] ++ ys.take i) ++ [(who, r)]) (ys.drop i) (by go_simp) H2.out.1 AD (n - i) (cap - i) (by go_simp) HT2.out HLIM.out.2.2 (HAD.out w2 H2.out.2) H2.out.2.size ?_; intro s3 n3 c3 w3 ho3 hb3 _; obtain ⟨q3, f3, k3, b3⟩ := HEND.out s3 n3 c3 w3 (by rw [← HSP.out]; exact ho3) (H2.out.2.trans hb3); have HK : Hid (KR B (w3.setCell ⟨q, 0, none⟩ (.slice s3 n3 c3)) q (ys.take i ++ (who, r) :: ys.drop i) ∧ Buts [q] w (w3.setCell ⟨q, 0, none⟩ (.slice s3 n3 c3))) := ⟨k3, b3⟩; clear k3 b3 ho3 hb3; go_simp; refine hK _ _ ?_; clear hK KK
          refine wpAny_take (i := 20) (v := ?vm58) rfl (by kernel_rfl) (by kernel_rfl) (by kernel_rfl) (fun _ _ _ h => h) (Or.inl ⟨by rfl, ?hym58⟩) ?restm58
          case hym58 => (intro w; go_simp; try with_reducible rfl)
          refine wpAny_take (i := 21) (v := ?vm59) rfl (by kernel_rfl) (by kernel_rfl) (by kernel_rfl) (fun _ _ _ h => h) (Or.inl ⟨by rfl, ?hym59⟩) ?restm59
          case hym59 => (intro w; go_simp; try with_reducible rfl)
          refine wpAny_ready (rs := [22]) (by kernel_rfl) (by simp) ?_
          refine AllReady.cons rfl (fun KK hK => ?_) AllReady.nil
          go_simp; refine hK _ _ ?_; clear hK KK
          refine wpAny_done (by kernel_rfl) ?_ _
          go_simp
          go_wp2
          go_ret
          exact ⟨rfl, HK.out.1, HK.out.2⟩
        · have hlt : ¬ (i : Int) < n := by omega
          go_wp2
          refine wp_region_any hmx ?_
          refine wpAny_take (i := 0) (v := ?vo1) rfl (by kernel_rfl) (by kernel_rfl) (by kernel_rfl) (fun _ _ _ h => h) (Or.inl ⟨by rfl, ?hyo1⟩) ?resto1
          case hyo1 => (intro w; go_simp; try with_reducible rfl)
          refine wpAny_take (i := 1) (v := ?vo2) rfl (by kernel_rfl) (by kernel_rfl) (by kernel_rfl) (fun _ _ _ h => h) (Or.inl ⟨by rfl, ?hyo2⟩) ?resto2
          case hyo2 => (intro w; go_simp; try with_reducible rfl)
          refine wpAny_take (i := 2) (v := ?vo3) rfl (by kernel_rfl) (by kernel_rfl) (by kernel_rfl) (fun _ _ _ h => h) (Or.inl ⟨by rfl, ?hyo3⟩) ?resto3
          case hyo3 => (intro w; go_simp; try with_reducible rfl)
          refine wpAny_take (i := 3) (v := ?vo4) rfl (by kernel_rfl) (by kernel_rfl) (by kernel_rfl) (fun _ _ _ h => h) (Or.inl ⟨by rfl, ?hyo4⟩) ?resto4
          case hyo4 => (intro w; go_simp; try with_reducible rfl)
          refine wpAny_take (i := 5) (v := ?vo5) rfl (by kernel_rfl) (by kernel_rfl) (by kernel_rfl) (fun _ _ _ h => h) (Or.inl ⟨by rfl, ?hyo5⟩) ?resto5
          case hyo5 => (intro w; go_simp; try with_reducible rfl)
          refine wpAny_take (i := 8) (v := ?vo6) rfl (by kernel_rfl) (by kernel_rfl) (by kernel_rfl) (fun _ _ _ h => h) (Or.inl ⟨by rfl, ?hyo6⟩) ?resto6
          case hyo6 => (intro w; go_simp; try with_reducible rfl)
          refine wpAny_take (i := 9) (v := ?vo7) rfl (by kernel_rfl) (by kernel_rfl) (by kernel_rfl) (fun _ _ _ h => h) (Or.inl ⟨by rfl, ?hyo7⟩) ?resto7
          case hyo7 => (intro w; go_simp; try with_reducible rfl)
          refine wpAny_take (i := 10) (v := ?vo8) rfl (by kernel_rfl) (by kernel_rfl) (by kernel_rfl) (fun _ _ _ h => h) (Or.inl ⟨by rfl, ?hyo8⟩) ?resto8
          case hyo8 => (intro w; go_simp; try with_reducible rfl)
          refine wpAny_take (i := 13) (v := ?vo9) rfl (by kernel_rfl) (by kernel_rfl) (by kernel_rfl) (fun _ _ _ h => h) (Or.inl ⟨by rfl, ?hyo9⟩) ?resto9
          case hyo9 => (intro w; go_simp; try with_reducible rfl)
          refine wpAny_take (i := 14) (v := ?vo10) rfl (by kernel_rfl) (by kernel_rfl) (by kernel_rfl) (fun _ _ _ h => h) (Or.inl ⟨by rfl, ?hyo10⟩) ?resto10
          case hyo10 => (intro w; go_simp; try with_reducible rfl)
          refine wpAny_take (i := 15) (v := ?vo11) rfl (by kernel_rfl) (by kernel_rfl) (by kernel_rfl) (fun _ _ _ h => h) (Or.inl ⟨by rfl, ?hyo11⟩) ?resto11
          case hyo11 => (intro w; go_simp; try with_reducible rfl)
          refine wpAny_take (i := 17) (v := ?vo12) rfl (by kernel_rfl) (by kernel_rfl) (by kernel_rfl) (fun _ _ _ h => h) (Or.inl ⟨by rfl, ?hyo12⟩) ?resto12
          case hyo12 => (intro w; go_simp; try with_reducible rfl)
          refine wpAny_ready (rs := [4, 11, 16]) (by kernel_rfl) (by simp) ?_
          refine AllReady.cons rfl (fun KK hK => ?_) ?_
          · go_simp; refine hK _ _ ?_; clear hK KK
            refine wpAny_take (i := 6) (v := ?vo13) rfl (by kernel_rfl) (by kernel_rfl) (by kernel_rfl) (fun _ _ _ h => h) (Or.inl ⟨by rfl, ?hyo13⟩) ?resto13
            case hyo13 => (intro w; go_simp; try with_reducible rfl)
            refine wpAny_ready (rs := [7, 11, 16]) (by kernel_rfl) (by simp) ?_
            refine AllReady.cons rfl (fun KK hK => ?_) ?_
            · refine step_srow rfl (.const (.slice none 0 0)) (.tmp 49) rfl w.heap.size (.slice none 0 0) [] (ys.take i) rfl (World.ownsRow_nil _ _ _ _) ⟨g, 0, none⟩ i cap (by go_simp) HT1.out HLIM.out.1 (HTO.out w.drew hd0) hd0.size ?_; intro s1 n1 c1 w1 ho1 hb1 hbb; have H1 : Hid (OwnS w.heap.size w1 (.slice s1 n1 c1) ([] ++ ys.take i) ∧ Below w.heap.size w w1) := ⟨ho1, hd0.trans hb1⟩; have kq1 : w1.cell? ⟨q, 0, none⟩ = some (.slice (some ⟨g, 0, none⟩) n cap) := ((hd0.trans hb1).cell (p := ⟨q, 0, none⟩) HQL.out).trans hlk; have hq1 : q < w1.heap.size := Nat.lt_of_lt_of_le HQL.out (hd0.trans hb1).size; clear ho1 hb1 hbb; go_simp; refine hK _ _ ?_; clear hK KK
              refine wpAny_ready (rs := [11, 16]) (by kernel_rfl) (by simp) ?_
              refine AllReady.cons rfl (fun KK hK => ?_) ?_
              · go_simp; refine hK _ _ ?_; clear hK KK
                refine wpAny_ready (rs := [12, 16]) (by kernel_rfl) (by simp) ?_
                refine AllReady.cons rfl (fun KK hK => ?_) ?_
                · refine step_srow rfl (.tmp 50) (.tmp 54) rfl w.heap.size (.slice s1 n1 c1) ([] ++ ys.take i) [(who, r)] (by go_simp) (H1.out.1.below (alloc_below w1 _)) ⟨w1.heap.size, 0, none⟩ 1 1 (by go_simp) rfl HLIM.out.2.1 (one_cells w1 (who, r)) (Nat.le_trans H1.out.2.size (alloc_below w1 _).size) ?_; intro s2 n2 c2 w2 ho2 hb2 _; have H2 : Hid (OwnS w.heap.size w2 (.slice s2 n2 c2) (([] ++ ys.take i) ++ [(who, r)]) ∧ Below w.heap.size w w2) := ⟨ho2, (H1.out.2.trans ((alloc_below w1 _).mono H1.out.2.size)).trans hb2⟩; have kq2 : w2.cell? ⟨q, 0, none⟩ = some (.slice (some ⟨g, 0, none⟩) n cap) := (H2.out.2.cell (p := ⟨q, 0, none⟩) HQL.out).trans hlk; clear ho2 hb2; go_simp; refine hK _ _ ?_; clear hK KK
                  refine wpAny_ready (rs := [16]) (by kernel_rfl) (by simp) ?_
                  refine AllReady.cons rfl (fun KK hK => ?_) AllReady.nil
                  go_simp; refine hK _ _ ?_; clear hK KK
                  refine wpAny_take (i := 18) (v := ?vo14) rfl (by kernel_rfl) (by kernel_rfl) (by kernel_rfl) (fun _ _ _ h => h) (Or.inl ⟨by rfl, ?hyo14⟩) ?resto14
                  case hyo14 => (intro w; go_simp; try with_reducible rfl)
                  refine wpAny_ready (rs := [19]) (by kernel_rfl) (by simp) ?_
                  refine AllReady.cons rfl (fun KK hK => ?_) AllReady.nil
                  refine step_srow rfl (.tmp 55) (.tmp 61) rfl w.heap.size (.slice s2 n2 c2) (([] ++ ys.take i) ++ [(who, r)]) (ys.drop i) (by go_simp) H2.out.1 AD (n - i) (cap - i) (by go_simp) HT2.out HLIM.out.2.2 (HAD.out w2 H2.out.2) H2.out.2.size ?_; intro s3 n3 c3 w3 ho3 hb3 _; obtain ⟨q3, f3, k3, b3⟩ := HEND.out s3 n3 c3 w3 (by rw [← HSP.out]; exact ho3) (H2.out.2.trans hb3); have HK : Hid (KR B (w3.setCell ⟨q, 0, none⟩ (.slice s3 n3 c3)) q (ys.take i ++ (who, r) :: ys.drop i) ∧ Buts [q] w (w3.setCell ⟨q, 0, none⟩ (.slice s3 n3 c3))) := ⟨k3, b3⟩; clear k3 b3 ho3 hb3; go_simp; refine hK _ _ ?_; clear hK KK
                  refine wpAny_take (i := 20) (v := ?vo15) rfl (by kernel_rfl) (by kernel_rfl) (by kernel_rfl) (fun _ _ _ h => h) (Or.inl ⟨by rfl, ?hyo15⟩) ?resto15
                  case hyo15 => (intro w; go_simp; try with_reducible rfl)
                  refine wpAny_take (i := 21) (v := ?vo16) rfl (by kernel_rfl) (by kernel_rfl) (by kernel_rfl) (fun _ _ _ h => h) (Or.inl ⟨by rfl, ?hyo16⟩) ?resto16
                  case hyo16 => (intro w; go_simp; try with_reducible rfl)
                  refine wpAny_ready (rs := [22]) (by kernel_rfl) (by simp) ?_
                  refine AllReady.cons rfl (fun KK hK => ?_) AllReady.nil
                  go_simp; refine hK _ _ ?_; clear hK KK
                  refine wpAny_done (by kernel_rfl) ?_ _
                  go_simp
                  go_wp2
                  go_ret
                  exact ⟨rfl, HK.out.1, HK.out.2⟩
                refine AllReady.cons rfl (fun KK hK => ?_) AllReady.nil
                go_simp; refine hK _ _ ?_; clear hK KK
                refine wpAny_take (i := 18) (v := ?vo17) rfl (by kernel_rfl) (by kernel_rfl) (by kernel_rfl) (fun _ _ _ h => h) (Or.inl ⟨by rfl, ?hyo17⟩) ?resto17
                case hyo17 => (intro w; go_simp; try with_reducible rfl)
                refine wpAny_ready (rs := [12]) (by kernel_rfl) (by simp) ?_
                refine AllReady.cons rfl (fun KK hK => ?_) AllReady.nil
                refine step_srow rfl (.tmp 50) (.tmp 54) rfl w.heap.size (.slice s1 n1 c1) ([] ++ ys.take i) [(who, r)] (by go_simp) (H1.out.1.below (alloc_below w1 _)) ⟨w1.heap.size, 0, none⟩ 1 1 (by go_simp) rfl HLIM.out.2.1 (one_cells w1 (who, r)) (Nat.le_trans H1.out.2.size (alloc_below w1 _).size) ?_; intro s2 n2 c2 w2 ho2 hb2 _; have H2 : Hid (OwnS w.heap.size w2 (.slice s2 n2 c2) (([] ++ ys.take i) ++ [(who, r)]) ∧ Below w.heap.size w w2) := ⟨ho2, (H1.out.2.trans ((alloc_below w1 _).mono H1.out.2.size)).trans hb2⟩; have kq2 : w2.cell? ⟨q, 0, none⟩ = some (.slice (some ⟨g, 0, none⟩) n cap) := (H2.out.2.cell (p := ⟨q, 0, none⟩) HQL.out).trans hlk; clear ho2 hb2; go_simp; refine hK _ _ ?_; clear hK KK
                refine wpAny_ready (rs := [19]) (by kernel_rfl) (by simp) ?_
                refine AllReady.cons rfl (fun KK hK => ?_) AllReady.nil
                refine step_srow rfl (.tmp 55) (.tmp 61) rfl w.heap.size (.slice s2 n2 c2) (([] ++ ys.take i) ++ [(who, r)]) (ys.drop i) (by go_simp) H2.out.1 AD (n - i) (cap - i) (by go_simp) HT2.out HLIM.out.2.2 (HAD.out w2 H2.out.2) H2.out.2.size ?_; intro s3 n3 c3 w3 ho3 hb3 _; obtain ⟨q3, f3, k3, b3⟩ := HEND.out s3 n3 c3 w3 (by rw [← HSP.out]; exact ho3) (H2.out.2.trans hb3); have HK : Hid (KR B (w3.setCell ⟨q, 0, none⟩ (.slice s3 n3 c3)) q (ys.take i ++ (who, r) :: ys.drop i) ∧ Buts [q] w (w3.setCell ⟨q, 0, none⟩ (.slice s3 n3 c3))) := ⟨k3, b3⟩; clear k3 b3 ho3 hb3; go_simp; refine hK _ _ ?_; clear hK KK
                refine wpAny_take (i := 20) (v := ?vo18) rfl (by kernel_rfl) (by kernel_rfl) (by kernel_rfl) (fun _ _ _ h => h) (Or.inl ⟨by rfl, ?hyo18⟩) ?resto18
                case hyo18 => (intro w; go_simp; try with_reducible rfl)
                refine wpAny_take (i := 21) (v := ?vo19) rfl (by kernel_rfl) (by kernel_rfl) (by kernel_rfl) (fun _ _ _ h => h) (Or.inl ⟨by rfl, ?hyo19⟩) ?resto19
                case hyo19 => (intro w; go_simp; try with_reducible rfl)
                refine wpAny_ready (rs := [22]) (by kernel_rfl) (by simp) ?_
                refine AllReady.cons rfl (fun KK hK => ?_) AllReady.nil
                go_simp; refine hK _ _ ?_; clear hK KK
                refine wpAny_done (by kernel_rfl) ?_ _
                go_simp
                go_wp2
                go_ret
                exact ⟨rfl, HK.out.1, HK.out.2⟩
              refine AllReady.cons rfl (fun KK hK => ?_) AllReady.nil
              go_simp; refine hK _ _ ?_; clear hK KK
              refine wpAny_take (i := 18) (v := ?vo20) rfl (by kernel_rfl) (by kernel_rfl) (by kernel_rfl) (fun _ _ _ h => h) (Or.inl ⟨by rfl, ?hyo20⟩) ?resto20
              case hyo20 => (intro w; go_simp; try with_reducible rfl)
              refine wpAny_ready (rs := [11]) (by kernel_rfl) (by simp) ?_
              refine AllReady.cons rfl (fun KK hK => ?_) AllReady.nil
              go_simp; refine hK _ _ ?_; clear hK KK
              refine wpAny_ready (rs := [12]) (by kernel_rfl) (by simp) ?_
              refine AllReady.cons rfl (fun KK hK => ?_) AllReady.nil
              refine step_srow rfl (.tmp 50) (.tmp 54) rfl w.heap.size (.slice s1 n1 c1) ([] ++ ys.take i) [(who, r)] (by go_simp) (H1.out.1.below (alloc_below w1 _)) ⟨w1.heap.size, 0, none⟩ 1 1 (by go_simp) rfl HLIM.out.2.1 (one_cells w1 (who, r)) (Nat.le_trans H1.out.2.size (alloc_below w1 _).size) ?_; intro s2 n2 c2 w2 ho2 hb2 _; have H2 : Hid (OwnS w.heap.size w2 (.slice s2 n2 c2) (([] ++ ys.take i) ++ [(who, r)]) ∧ Below w.heap.size w w2) := ⟨ho2, (H1.out.2.trans ((alloc_below w1 _).mono H1.out.2.size)).trans hb2⟩; have kq2 : w2.cell? ⟨q, 0, none⟩ = some (.slice (some ⟨g, 0, none⟩) n cap) := (H2.out.2.cell (p := ⟨q, 0, none⟩) HQL.out).trans hlk; clear ho2 hb2; go_simp; refine hK _ _ ?_; clear hK KK
              refine wpAny_ready (rs := [19]) (by kernel_rfl) (by simp) ?_
              refine AllReady.cons rfl (fun KK hK => ?_) AllReady.nil
              refine step_srow rfl (.tmp 55) (.tmp 61) rfl w.heap.size (.slice s2 n2 c2) (([] ++ ys.take i) ++ [(who, r)]) (ys.drop i) (by go_simp) H2.out.1 AD (n - i) (cap - i) (by go_simp) HT2.out HLIM.out.2.2 (HAD.out w2 H2.out.2) H2.out.2.size ?_; intro s3 n3 c3 w3 ho3 hb3 _; obtain ⟨q3, f3, k3, b3⟩ := HEND.out s3 n3 c3 w3 (by rw [← HSP.out]; exact ho3) (H2.out.2.trans hb3); have HK : Hid (KR B (w3.setCell ⟨q, 0, none⟩ (.slice s3 n3 c3)) q (ys.take i ++ (who, r) :: ys.drop i) ∧ Buts [q] w (w3.setCell ⟨q, 0, none⟩ (.slice s3 n3 c3))) := ⟨k3, b3⟩; clear k3 b3 ho3 hb3; go_simp; refine hK _ _ ?_; clear hK KK
              refine wpAny_take (i := 20) (v := ?vo21) rfl (by kernel_rfl) (by kernel_rfl) (by kernel_rfl) (fun _ _ _ h => h) (Or.inl ⟨by rfl, ?hyo21⟩) ?resto21
              case hyo21 => (intro w; go_simp; try with_reducible rfl)
              refine wpAny_take (i := 21) (v := ?vo22) rfl (by kernel_rfl) (by kernel_rfl) (by kernel_rfl) (fun _ _ _ h => h) (Or.inl ⟨by rfl, ?hyo22⟩) ?resto22
              case hyo22 => (intro w; go_simp; try with_reducible rfl)
              refine wpAny_ready (rs := [22]) (by kernel_rfl) (by simp) ?_
              refine AllReady.cons rfl (fun KK hK => ?_) AllReady.nil
              go_simp; refine hK _ _ ?_; clear hK KK
              refine wpAny_done (by kernel_rfl) ?_ _
              go_simp
              go_wp2
              go_ret
              exact ⟨rfl, HK.out.1, HK.out.2⟩
            refine AllReady.cons rfl (fun KK hK => ?_) ?_
            · go_simp; refine hK _ _ ?_; clear hK KK
              refine wpAny_ready (rs := [7, 16]) (by kernel_rfl) (by simp) ?_
              refine AllReady.cons rfl (fun KK hK => ?_) ?_
              · refine step_srow rfl (.const (.slice none 0 0)) (.tmp 49) rfl w.heap.size (.slice none 0 0) [] (ys.take i) rfl (World.ownsRow_nil _ _ _ _) ⟨g, 0, none⟩ i cap (by go_simp) HT1.out HLIM.out.1 (HTO.out (w.alloc (.cells #[.int .i64 who, .int .i64 r] 66)).drew hd1) hd1.size ?_; intro s1 n1 c1 w1 ho1 hb1 hbb; have H1 : Hid (OwnS w.heap.size w1 (.slice s1 n1 c1) ([] ++ ys.take i) ∧ Below w.heap.size w w1) := ⟨ho1, hd1.trans hb1⟩; have kq1 : w1.cell? ⟨q, 0, none⟩ = some (.slice (some ⟨g, 0, none⟩) n cap) := ((hd1.trans hb1).cell (p := ⟨q, 0, none⟩) HQL.out).trans hlk; have hq1 : q < w1.heap.size := Nat.lt_of_lt_of_le HQL.out (hd1.trans hb1).size; have HONE : Hid (∀ j u, (lks [(who, r)])[j]? = some u → w1.cell? ((⟨w.heap.size, 0, none⟩ : Addr).add j) = some u) := (fun j u hj => by rw [addr_add, (hbb rfl).cell (p := ⟨w.heap.size, 0 + j, none⟩) (by show _ < (w.alloc (.cells #[.int .i64 who, .int .i64 r] 66)).heap.size; rw [alloc_size]; exact Nat.lt_succ_self _), ← addr_add]; exact one_cells w (who, r) j u hj); clear ho1 hb1 hbb; go_simp; refine hK _ _ ?_; clear hK KK
                refine wpAny_ready (rs := [12, 16]) (by kernel_rfl) (by simp) ?_
                refine AllReady.cons rfl (fun KK hK => ?_) ?_
                · refine step_srow rfl (.tmp 50) (.tmp 54) rfl w.heap.size (.slice s1 n1 c1) ([] ++ ys.take i) [(who, r)] (by go_simp) H1.out.1 ⟨w.heap.size, 0, none⟩ 1 1 (by go_simp) rfl HLIM.out.2.1 HONE.out H1.out.2.size ?_; intro s2 n2 c2 w2 ho2 hb2 _; have H2 : Hid (OwnS w.heap.size w2 (.slice s2 n2 c2) (([] ++ ys.take i) ++ [(who, r)]) ∧ Below w.heap.size w w2) := ⟨ho2, H1.out.2.trans hb2⟩; have kq2 : w2.cell? ⟨q, 0, none⟩ = some (.slice (some ⟨g, 0, none⟩) n cap) := (H2.out.2.cell (p := ⟨q, 0, none⟩) HQL.out).trans hlk; clear ho2 hb2; go_simp; refine hK _ _ ?_; clear hK KK
                  refine wpAny_ready (rs := [16]) (by kernel_rfl) (by simp) ?_
                  refine AllReady.cons rfl (fun KK hK => ?_) AllReady.nil
                  go_simp; refine hK _ _ ?_; clear hK KK
                  refine wpAny_take (i := 18) (v := ?vo23) rfl (by kernel_rfl) (by kernel_rfl) (by kernel_rfl) (fun _ _ _ h => h) (Or.inl ⟨by rfl, ?hyo23⟩) ?resto23
                  case hyo23 => (intro w; go_simp; try with_reducible rfl)
                  refine wpAny_ready (rs := [19]) (by kernel_rfl) (by simp) ?_
                  refine AllReady.cons rfl (fun KK hK => ?_) AllReady.nil
                  refine step_srow rfl (.tmp 55) (.tmp 61) rfl w.heap.size (.slice s2 n2 c2) (([] ++ ys.take i) ++ [(who, r)]) (ys.drop i) (by go_simp) H2.out.1 AD (n - i) (cap - i) (by go_simp) HT2.out HLIM.out.2.2 (HAD.out w2 H2.out.2) H2.out.2.size ?_; intro s3 n3 c3 w3 ho3 hb3 _; obtain ⟨q3, f3, k3, b3⟩ := HEND.out s3 n3 c3 w3 (by rw [← HSP.out]; exact ho3) (H2.out.2.trans hb3); have HK : Hid (KR B (w3.setCell ⟨q, 0, none⟩ (.slice s3 n3 c3)) q (ys.take i ++ (who, r) :: ys.drop i) ∧ Buts [q] w (w3.setCell ⟨q, 0, none⟩ (.slice s3 n3 c3))) := ⟨k3, b3⟩; clear k3 b3 ho3 hb3; go_simp; refine hK _ _ ?_; clear hK KK
                  refine wpAny_take (i := 20) (v := ?vo24) rfl (by kernel_rfl) (by kernel_rfl) (by kernel_rfl) (fun _ _ _ h => h) (Or.inl ⟨by rfl, ?hyo24⟩) ?resto24
                  case hyo24 => (intro w; go_simp; try with_reducible rfl)
                  refine wpAny_take (i := 21) (v := ?vo25) rfl (by kernel_rfl) (by kernel_rfl) (by kernel_rfl) (fun _ _ _ h => h) (Or.inl ⟨by rfl, ?hyo25⟩) ?resto25
                  case hyo25 => (intro w; go_simp; try with_reducible rfl)
                  refine wpAny_ready (rs := [22]) (by kernel_rfl) (by simp) ?_
                  refine AllReady.cons rfl (fun KK hK => ?_) AllReady.nil
                  go_simp; refine hK _ _ ?_; clear hK KK
                  refine wpAny_done (by kernel_rfl) ?_ _
                  go_simp
                  go_wp2
                  go_ret
                  exact ⟨rfl, HK.out.1, HK.out.2⟩
                refine AllReady.cons rfl (fun KK hK => ?_) AllReady.nil
                go_simp; refine hK _ _ ?_; clear hK KK
                refine wpAny_take (i := 18) (v := ?vo26) rfl (by kernel_rfl) (by kernel_rfl) (by kernel_rfl) (fun _ _ _ h => h) (Or.inl ⟨by rfl, ?hyo26⟩) ?resto26
                case hyo26 => (intro w; go_simp; try with_reducible rfl)
                refine wpAny_ready (rs := [12]) (by kernel_rfl) (by simp) ?_
                refine AllReady.cons rfl (fun KK hK => ?_) AllReady.nil
                refine step_srow rfl (.tmp 50) (.tmp 54) rfl w.heap.size (.slice s1 n1 c1) ([] ++ ys.take i) [(who, r)] (by go_simp) H1.out.1 ⟨w.heap.size, 0, none⟩ 1 1 (by go_simp) rfl HLIM.out.2.1 HONE.out H1.out.2.size ?_; intro s2 n2 c2 w2 ho2 hb2 _; have H2 : Hid (OwnS w.heap.size w2 (.slice s2 n2 c2) (([] ++ ys.take i) ++ [(who, r)]) ∧ Below w.heap.size w w2) := ⟨ho2, H1.out.2.trans hb2⟩; have kq2 : w2.cell? ⟨q, 0, none⟩ = some (.slice (some ⟨g, 0, none⟩) n cap) := (H2.out.2.cell (p := ⟨q, 0, none⟩) HQL.out).trans hlk; clear ho2 hb2; go_simp; refine hK _ _ ?_; clear hK KK
                refine wpAny_ready (rs := [19]) (by kernel_rfl) (by simp) ?_
                refine AllReady.cons rfl (fun KK hK => ?_) AllReady.nil
                refine step_srow rfl (.tmp 55) (.tmp 61) rfl w.heap.size (.slice s2 n2 c2) (([] ++ ys.take i) ++ [(who, r)]) (ys.drop i) (by go_simp) H2.out.1 AD (n - i) (cap - i) (by go_simp) HT2.out HLIM.out.2.2 (HAD.out w2 H2.out.2) H2.out.2.size ?_; intro s3 n3 c3 w3 ho3 hb3 _; obtain ⟨q3, f3, k3, b3⟩ := HEND.out s3 n3 c3 w3 (by rw [← HSP.out]; exact ho3) (H2.out.2.trans hb3); have HK : Hid (KR B (w3.setCell ⟨q, 0, none⟩ (.slice s3 n3 c3)) q (ys.take i ++ (who, r) :: ys.drop i) ∧ Buts [q] w (w3.setCell ⟨q, 0, none⟩ (.slice s3 n3 c3))) := ⟨k3, b3⟩; clear k3 b3 ho3 hb3; go_simp; refine hK _ _ ?_; clear hK KK
                refine wpAny_take (i := 20) (v := ?vo27) rfl (by kernel_rfl) (by kernel_rfl) (by kernel_rfl) (fun _ _ _ h => h) (Or.inl ⟨by rfl, ?hyo27⟩) ?resto27
                case hyo27 => (intro w; go_simp; try with_reducible rfl)
                refine wpAny_take (i := 21) (v := ?vo28) rfl (by kernel_rfl) (by kernel_rfl) (by kernel_rfl) (fun _ _ _ h => h) (Or.inl ⟨by rfl, ?hyo28⟩) ?resto28
                case hyo28 => (intro w; go_simp; try with_reducible rfl)
                refine wpAny_ready (rs := [22]) (by kernel_rfl) (by simp) ?_
                refine AllReady.cons rfl (fun KK hK => ?_) AllReady.nil
                go_simp; refine hK _ _ ?_; clear hK KK
                refine wpAny_done (by kernel_rfl) ?_ _
                go_simp
                go_wp2
                go_ret
                exact ⟨rfl, HK.out.1, HK.out.2⟩
              refine AllReady.cons rfl (fun KK hK => ?_) AllReady.nil
              go_simp; refine hK _ _ ?_; clear hK KK
              refine wpAny_take (i := 18) (v := ?vo29) rfl (by kernel_rfl) (by kernel_rfl) (by kernel_rfl) (fun _ _ _ h => h) (Or.inl ⟨by rfl, ?hyo29⟩) ?resto29
              case hyo29 => (intro w; go_simp; try with_reducible rfl)
              refine wpAny_ready (rs := [7]) (by kernel_rfl) (by simp) ?_
              refine AllReady.cons rfl (fun KK hK => ?_) AllReady.nil
              refine step_srow rfl (.const (.slice none 0 0)) (.tmp 49) rfl w.heap.size (.slice none 0 0) [] (ys.take i) rfl (World.ownsRow_nil _ _ _ _) ⟨g, 0, none⟩ i cap (by go_simp) HT1.out HLIM.out.1 (HTO.out (w.alloc (.cells #[.int .i64 who, .int .i64 r] 66)).drew hd1) hd1.size ?_; intro s1 n1 c1 w1 ho1 hb1 hbb; have H1 : Hid (OwnS w.heap.size w1 (.slice s1 n1 c1) ([] ++ ys.take i) ∧ Below w.heap.size w w1) := ⟨ho1, hd1.trans hb1⟩; have kq1 : w1.cell? ⟨q, 0, none⟩ = some (.slice (some ⟨g, 0, none⟩) n cap) := ((hd1.trans hb1).cell (p := ⟨q, 0, none⟩) HQL.out).trans hlk; have hq1 : q < w1.heap.size := Nat.lt_of_lt_of_le HQL.out (hd1.trans hb1).size; have HONE : Hid (∀ j u, (lks [(who, r)])[j]? = some u → w1.cell? ((⟨w.heap.size, 0, none⟩ : Addr).add j) = some u) := (fun j u hj => by rw [addr_add, (hbb rfl).cell (p := ⟨w.heap.size, 0 + j, none⟩) (by show _ < (w.alloc (.cells #[.int .i64 who, .int .i64 r] 66)).heap.size; rw [alloc_size]; exact Nat.lt_succ_self _), ← addr_add]; exact one_cells w (who, r) j u hj); clear ho1 hb1 hbb; go_simp; refine hK _ _ ?_; clear hK KK
              refine wpAny_ready (rs := [12]) (by kernel_rfl) (by simp) ?_
              refine AllReady.cons rfl (fun KK hK => ?_) AllReady.nil
              refine step_srow rfl (.tmp 50) (.tmp 54) rfl w.heap.size (.slice s1 n1 c1) ([] ++ ys.take i) [(who, r)] (by go_simp) H1.out.1 ⟨w.heap.size, 0, none⟩ 1 1 (by go_simp) rfl HLIM.out.2.1 HONE.out H1.out.2.size ?_; intro s2 n2 c2 w2 ho2 hb2 _; have H2 : Hid (OwnS w.heap.size w2 (.slice s2 n2 c2) (([] ++ ys.take i) ++ [(who, r)]) ∧ Below w.heap.size w w2) := ⟨ho2, H1.out.2.trans hb2⟩; have kq2 : w2.cell? ⟨q, 0, none⟩ = some (.slice (some ⟨g, 0, none⟩) n cap) := (H2.out.2.cell (p := ⟨q, 0, none⟩) HQL.out).trans hlk; clear ho2 hb2; go_simp; refine hK _ _ ?_; clear hK KK
              refine wpAny_ready (rs := [19]) (by kernel_rfl) (by simp) ?_
              refine AllReady.cons rfl (fun KK hK => ?_) AllReady.nil
              refine step_srow rfl (.tmp 55) (.tmp 61) rfl w.heap.size (.slice s2 n2 c2) (([] ++ ys.take i) ++ [(who, r)]) (ys.drop i) (by go_simp) H2.out.1 AD (n - i) (cap - i) (by go_simp) HT2.out HLIM.out.2.2 (HAD.out w2 H2.out.2) H2.out.2.size ?_; intro s3 n3 c3 w3 ho3 hb3 _; obtain ⟨q3, f3, k3, b3⟩ := HEND.out s3 n3 c3 w3 (by rw [← HSP.out]; exact ho3) (H2.out.2.trans hb3); have HK : Hid (KR B (w3.setCell ⟨q, 0, none⟩ (.slice s3 n3 c3)) q (ys.take i ++ (who, r) :: ys.drop i) ∧ Buts [q] w (w3.setCell ⟨q, 0, none⟩ (.slice s3 n3 c3))) := ⟨k3, b3⟩; clear k3 b3 ho3 hb3; go_simp; refine hK _ _ ?_; clear hK KK
              refine wpAny_take (i := 20) (v := ?vo30) rfl (by kernel_rfl) (by kernel_rfl) (by kernel_rfl) (fun _ _ _ h => h) (Or.inl ⟨by rfl, ?hyo30⟩) ?resto30
              case hyo30 => (intro w; go_simp; try with_reducible rfl)
              refine wpAny_take (i := 21) (v := ?vo31) rfl (by kernel_rfl) (by kernel_rfl) (by kernel_rfl) (fun _ _ _ h => h) (Or.inl ⟨by rfl, ?hyo31⟩) ?resto31
              case hyo31 => (intro w; go_simp; try with_reducible rfl)
              refine wpAny_ready (rs := [22]) (by kernel_rfl) (by simp) ?_
              refine AllReady.cons rfl (fun KK hK => ?_) AllReady.nil
              go_simp; refine hK _ _ ?_; clear hK KK
              refine wpAny_done (by kernel_rfl) ?_ _
              go_simp
              go_wp2
              go_ret
              exact ⟨rfl, HK.out.1, HK.out.2⟩
            refine AllReady.cons rfl (fun KK hK => ?_) AllReady.nil
            go_simp; refine hK _ _ ?_; clear hK KK
            refine wpAny_take (i := 18) (v := ?vo32) rfl (by kernel_rfl) (by kernel_rfl) (by kernel_rfl) (fun _ _ _ h => h) (Or.inl ⟨by rfl, ?hyo32⟩) ?resto32
            case hyo32 => (intro w; go_simp; try with_reducible rfl)
            refine wpAny_ready (rs := [7, 11]) (by kernel_rfl) (by simp) ?_
            refine AllReady.cons rfl (fun KK hK => ?_) ?_
            · refine step_srow rfl (.const (.slice none 0 0)) (.tmp 49) rfl w.heap.size (.slice none 0 0) [] (ys.take i) rfl (World.ownsRow_nil _ _ _ _) ⟨g, 0, none⟩ i cap (by go_simp) HT1.out HLIM.out.1 (HTO.out w.drew hd0) hd0.size ?_; intro s1 n1 c1 w1 ho1 hb1 hbb; have H1 : Hid (OwnS w.heap.size w1 (.slice s1 n1 c1) ([] ++ ys.take i) ∧ Below w.heap.size w w1) := ⟨ho1, hd0.trans hb1⟩; have kq1 : w1.cell? ⟨q, 0, none⟩ = some (.slice (some ⟨g, 0, none⟩) n cap) := ((hd0.trans hb1).cell (p := ⟨q, 0, none⟩) HQL.out).trans hlk; have hq1 : q < w1.heap.size := Nat.lt_of_lt_of_le HQL.out (hd0.trans hb1).size; clear ho1 hb1 hbb; go_simp; refine hK _ _ ?_; clear hK KK
              refine wpAny_ready (rs := [11]) (by kernel_rfl) (by simp) ?_
              refine AllReady.cons rfl (fun KK hK => ?_) AllReady.nil
              go_simp; refine hK _ _ ?_; clear hK KK
              refine wpAny_ready (rs := [12]) (by kernel_rfl) (by simp) ?_
              refine AllReady.cons rfl (fun KK hK => ?_) AllReady.nil
              refine step_srow rfl (.tmp 50) (.tmp 54) rfl w.heap.size (.slice s1 n1 c1) ([] ++ ys.take i) [(who, r)] (by go_simp) (H1.out.1.below (alloc_below w1 _)) ⟨w1.heap.size, 0, none⟩ 1 1 (by go_simp) rfl HLIM.out.2.1 (one_cells w1 (who, r)) (Nat.le_trans H1.out.2.size (alloc_below w1 _).size) ?_; intro s2 n2 c2 w2 ho2 hb2 _; have H2 : Hid (OwnS w.heap.size w2 (.slice s2 n2 c2) (([] ++ ys.take i) ++ [(who, r)]) ∧ Below w.heap.size w w2) := ⟨ho2, (H1.out.2.trans ((alloc_below w1 _).mono H1.out.2.size)).trans hb2⟩; have kq2 : w2.cell? ⟨q, 0, none⟩ = some (.slice (some ⟨g, 0, none⟩) n cap) := (H2.out.2.cell (p := ⟨q, 0, none⟩) HQL.out).trans hlk; clear ho2 hb2; go_simp; refine hK _ _ ?_; clear hK KK
              refine wpAny_ready (rs := [19]) (by kernel_rfl) (by simp) ?_
              refine AllReady.cons rfl (fun KK hK => ?_) AllReady.nil
              refine step_srow rfl (.tmp 55) (.tmp 61) rfl w.heap.size (.slice s2 n2 c2) (([] ++ ys.take i) ++ [(who, r)]) (ys.drop i) (by go_simp) H2.out.1 AD (n - i) (cap - i) (by go_simp) HT2.out HLIM.out.2.2 (HAD.out w2 H2.out.2) H2.out.2.size ?_; intro s3 n3 c3 w3 ho3 hb3 _; obtain ⟨q3, f3, k3, b3⟩ := HEND.out s3 n3 c3 w3 (by rw [← HSP.out]; exact ho3) (H2.out.2.trans hb3); have HK : Hid (KR B (w3.setCell ⟨q, 0, none⟩ (.slice s3 n3 c3)) q (ys.take i ++ (who, r) :: ys.drop i) ∧ Buts [q] w (w3.setCell ⟨q, 0, none⟩ (.slice s3 n3 c3))) := ⟨k3, b3⟩; clear k3 b3 ho3 hb3; go_simp; refine hK _ _ ?_; clear hK KK
              refine wpAny_take (i := 20) (v := ?vo33) rfl (by kernel_rfl) (by kernel_rfl) (by kernel_rfl) (fun _ _ _ h => h) (Or.inl ⟨by rfl, ?hyo33⟩) ?resto33
              case hyo33 => (intro w; go_simp; try with_reducible rfl)
              refine wpAny_take (i := 21) (v := ?vo34) rfl (by kernel_rfl) (by kernel_rfl) (by kernel_rfl) (fun _ _ _ h => h) (Or.inl ⟨by rfl, ?hyo34⟩) ?resto34
              case hyo34 => (intro w; go_simp; try with_reducible rfl)
              refine wpAny_ready (rs := [22]) (by kernel_rfl) (by simp) ?_
              refine AllReady.cons rfl (fun KK hK => ?_) AllReady.nil
              go_simp; refine hK _ _ ?_; clear hK KK
              refine wpAny_done (by kernel_rfl) ?_ _
              go_simp
              go_wp2
              go_ret
              exact ⟨rfl, HK.out.1, HK.out.2⟩
            refine AllReady.cons rfl (fun KK hK => ?_) AllReady.nil
            go_simp; refine hK _ _ ?_; clear hK KK
            refine wpAny_ready (rs := [7]) (by kernel_rfl) (by simp) ?_
            refine AllReady.cons rfl (fun KK hK => ?_) AllReady.nil
            refine step_srow rfl (.const (.slice none 0 0)) (.tmp 49) rfl w.heap.size (.slice none 0 0) [] (ys.take i) rfl (World.ownsRow_nil _ _ _ _) ⟨g, 0, none⟩ i cap (by go_simp) HT1.out HLIM.out.1 (HTO.out (w.alloc (.cells #[.int .i64 who, .int .i64 r] 66)).drew hd1) hd1.size ?_; intro s1 n1 c1 w1 ho1 hb1 hbb; have H1 : Hid (OwnS w.heap.size w1 (.slice s1 n1 c1) ([] ++ ys.take i) ∧ Below w.heap.size w w1) := ⟨ho1, hd1.trans hb1⟩; have kq1 : w1.cell? ⟨q, 0, none⟩ = some (.slice (some ⟨g, 0, none⟩) n cap) := ((hd1.trans hb1).cell (p := ⟨q, 0, none⟩) HQL.out).trans hlk; have hq1 : q < w1.heap.size := Nat.lt_of_lt_of_le HQL.out (hd1.trans hb1).size; have HONE : Hid (∀ j u, (lks [(who, r)])[j]? = some u → w1.cell? ((⟨w.heap.size, 0, none⟩ : Addr).add j) = some u) := (fun j u hj => by rw [addr_add, (hbb rfl).cell (p := ⟨w.heap.size, 0 + j, none⟩) (by show _ < (w.alloc (.cells #[.int .i64 who, .int .i64 r] 66)).heap.size; rw [alloc_size]; exact Nat.lt_succ_self _), ← addr_add]; exact one_cells w (who, r) j u hj); clear ho1 hb1 hbb; go_simp; refine hK _ _ ?_; clear hK KK
            refine wpAny_ready (rs := [12]) (by kernel_rfl) (by simp) ?_
            refine AllReady.cons rfl (fun KK hK => ?_) AllReady.nil
            refine step_srow rfl (.tmp 50) (.tmp 54) rfl w.heap.size (.slice s1 n1 c1) ([] ++ ys.take i) [(who, r)] (by go_simp) H1.out.1 ⟨w.heap.size, 0, none⟩ 1 1 (by go_simp) rfl HLIM.out.2.1 HONE.out H1.out.2.size ?_; intro s2 n2 c2 w2 ho2 hb2 _; have H2 : Hid (OwnS w.heap.size w2 (.slice s2 n2 c2) (([] ++ ys.take i) ++ [(who, r)]) ∧ Below w.heap.size w w2) := ⟨ho2, H1.out.2.trans hb2⟩; have kq2 : w2.cell? ⟨q, 0, none⟩ = some (.slice (some ⟨g, 0, none⟩) n cap) := (H2.out.2.cell (p := ⟨q, 0, none⟩) HQL.out).trans hlk; clear ho2 hb2; go_simp; refine hK _ _ ?_; clear hK KK
            refine wpAny_ready (rs := [19]) (by kernel_rfl) (by simp) ?_
            refine AllReady.cons rfl (fun KK hK => ?_) AllReady.nil
            refine step_srow rfl (.tmp 55) (.tmp 61) rfl w.heap.size (.slice s2 n2 c2) (([] ++ ys.take i) ++ [(who, r)]) (ys.drop i) (by go_simp) H2.out.1 AD (n - i) (cap - i) (by go_simp) HT2.out HLIM.out.2.2 (HAD.out w2 H2.out.2) H2.out.2.size ?_; intro s3 n3 c3 w3 ho3 hb3 _; obtain ⟨q3, f3, k3, b3⟩ := HEND.out s3 n3 c3 w3 (by rw [← HSP.out]; exact ho3) (H2.out.2.trans hb3); have HK : Hid (KR B (w3.setCell ⟨q, 0, none⟩ (.slice s3 n3 c3)) q (ys.take i ++ (who, r) :: ys.drop i) ∧ Buts [q] w (w3.setCell ⟨q, 0, none⟩ (.slice s3 n3 c3))) := ⟨k3, b3⟩; clear k3 b3 ho3 hb3; go_simp; refine hK _ _ ?_; clear hK KK
            refine wpAny_take (i := 20) (v := ?vo35) rfl (by kernel_rfl) (by kernel_rfl) (by kernel_rfl) (fun _ _ _ h => h) (Or.inl ⟨by rfl, ?hyo35⟩) ?resto35
            case hyo35 => (intro w; go_simp; try with_reducible rfl)
            refine wpAny_take (i := 21) (v := ?vo36) rfl (by kernel_rfl) (by kernel_rfl) (by kernel_rfl) (fun _ _ _ h => h) (Or.inl ⟨by rfl, ?hyo36⟩) ?resto36
            case hyo36 => (intro w; go_simp; try with_reducible rfl)
            refine wpAny_ready (rs := [22]) (by kernel_rfl) (by simp) ?_
            refine AllReady.cons rfl (fun KK hK => ?_) AllReady.nil
            go_simp; refine hK _ _ ?_; clear hK KK
            refine wpAny_done (by kernel_rfl) ?_ _
            go_simp
            go_wp2
            go_ret
            exact ⟨rfl, HK.out.1, HK.out.2⟩
          refine AllReady.cons rfl (fun KK hK => ?_) ?_
          · go_simp; refine hK _ _ ?_; clear hK KK
            refine wpAny_ready (rs := [4, 16]) (by kernel_rfl) (by simp) ?_
            refine AllReady.cons rfl (fun KK hK => ?_) ?_
            · go_simp; refine hK _ _ ?_; clear hK KK
              refine wpAny_take (i := 6) (v := ?vo37) rfl (by kernel_rfl) (by kernel_rfl) (by kernel_rfl) (fun _ _ _ h => h) (Or.inl ⟨by rfl, ?hyo37⟩) ?resto37
              case hyo37 => (intro w; go_simp; try with_reducible rfl)
              refine wpAny_ready (rs := [7, 16]) (by kernel_rfl) (by simp) ?_
              refine AllReady.cons rfl (fun KK hK => ?_) ?_
              · refine step_srow rfl (.const (.slice none 0 0)) (.tmp 49) rfl w.heap.size (.slice none 0 0) [] (ys.take i) rfl (World.ownsRow_nil _ _ _ _) ⟨g, 0, none⟩ i cap (by go_simp) HT1.out HLIM.out.1 (HTO.out (w.alloc (.cells #[.int .i64 who, .int .i64 r] 66)).drew hd1) hd1.size ?_; intro s1 n1 c1 w1 ho1 hb1 hbb; have H1 : Hid (OwnS w.heap.size w1 (.slice s1 n1 c1) ([] ++ ys.take i) ∧ Below w.heap.size w w1) := ⟨ho1, hd1.trans hb1⟩; have kq1 : w1.cell? ⟨q, 0, none⟩ = some (.slice (some ⟨g, 0, none⟩) n cap) := ((hd1.trans hb1).cell (p := ⟨q, 0, none⟩) HQL.out).trans hlk; have hq1 : q < w1.heap.size := Nat.lt_of_lt_of_le HQL.out (hd1.trans hb1).size; have HONE : Hid (∀ j u, (lks [(who, r)])[j]? = some u → w1.cell? ((⟨w.heap.size, 0, none⟩ : Addr).add j) = some u) := (fun j u hj => by rw [addr_add, (hbb rfl).cell (p := ⟨w.heap.size, 0 + j, none⟩) (by show _ < (w.alloc (.cells #[.int .i64 who, .int .i64 r] 66)).heap.size; rw [alloc_size]; exact Nat.lt_succ_self _), ← addr_add]; exact one_cells w (who, r) j u hj); clear ho1 hb1 hbb; go_simp; refine hK _ _ ?_; clear hK KK
                refine wpAny_ready (rs := [12, 16]) (by kernel_rfl) (by simp) ?_
                refine AllReady.cons rfl (fun KK hK => ?_) ?_
                · refine step_srow rfl (.tmp 50) (.tmp 54) rfl w.heap.size (.slice s1 n1 c1) ([] ++ ys.take i) [(who, r)] (by go_simp) H1.out.1 ⟨w.heap.size, 0, none⟩ 1 1 (by go_simp) rfl HLIM.out.2.1 HONE.out H1.out.2.size ?_; intro s2 n2 c2 w2 ho2 hb2 _; have H2 : Hid (OwnS w.heap.size w2 (.slice s2 n2 c2) (([] ++ ys.take i) ++ [(who, r)]) ∧ Below w.heap.size w w2) := ⟨ho2, H1.out.2.trans hb2⟩; have kq2 : w2.cell? ⟨q, 0, none⟩ = some (.slice (some ⟨g, 0, none⟩) n cap) := (H2.out.2.cell (p := ⟨q, 0, none⟩) HQL.out).trans hlk; clear ho2 hb2; go_simp; refine hK _ _ ?_; clear hK KK
                  refine wpAny_ready (rs := [16]) (by kernel_rfl) (by simp) ?_
                  refine AllReady.cons rfl (fun KK hK => ?_) AllReady.nil
                  go_simp; refine hK _ _ ?_; clear hK KK
                  refine wpAny_take (i := 18) (v := ?vo38) rfl (by kernel_rfl) (by kernel_rfl) (by kernel_rfl) (fun _ _ _ h => h) (Or.inl ⟨by rfl, ?hyo38⟩) ?resto38
                  case hyo38 => (intro w; go_simp; try with_reducible rfl)
                  refine wpAny_ready (rs := [19]) (by kernel_rfl) (by simp) ?_
                  refine AllReady.cons rfl (fun KK hK => ?_) AllReady.nil
                  refine step_srow rfl (.tmp 55) (.tmp 61) rfl w.heap.size (.slice s2 n2 c2) (([] ++ ys.take i) ++ [(who, r)]) (ys.drop i) (by go_simp) H2.out.1 AD (n - i) (cap - i) (by go_simp) HT2.out HLIM.out.2.2 (HAD.out w2 H2.out.2) H2.out.2.size ?_; intro s3 n3 c3 w3 ho3 hb3 _; obtain ⟨q3, f3, k3, b3⟩ := HEND.out s3 n3 c3 w3 (by rw [← HSP.out]; exact ho3) (H2.out.2.trans hb3); have HK : Hid (KR B (w3.setCell ⟨q, 0, none⟩ (.slice s3 n3 c3)) q (ys.take i ++ (who, r) :: ys.drop i) ∧ Buts [q] w (w3.setCell ⟨q, 0, none⟩ (.slice s3 n3 c3))) := ⟨k3, b3⟩; clear k3 b3 ho3 hb3; go_simp; refine hK _ _ ?_; clear hK KK
                  refine wpAny_take (i := 20) (v := ?vo39) rfl (by kernel_rfl) (by kernel_rfl) (by kernel_rfl) (fun _ _ _ h => h) (Or.inl ⟨by rfl, ?hyo39⟩) ?resto39
                  case hyo39 => (intro w; go_simp; try with_reducible rfl)
                  refine wpAny_take (i := 21) (v := ?vo40) rfl (by kernel_rfl) (by kernel_rfl) (by kernel_rfl) (fun _ _ _ h => h) (Or.inl ⟨by rfl, ?hyo40⟩) ?resto40
                  case hyo40 => (intro w; go_simp; try with_reducible rfl)
                  refine wpAny_ready (rs := [22]) (by kernel_rfl) (by simp) ?_
                  refine AllReady.cons rfl (fun KK hK => ?_) AllReady.nil
                  go_simp; refine hK _ _ ?_; clear hK KK
                  refine wpAny_done (by kernel_rfl) ?_ _
                  go_simp
                  go_wp2
                  go_ret
                  exact ⟨rfl, HK.out.1, HK.out.2⟩
                refine AllReady.cons rfl (fun KK hK => ?_) AllReady.nil
                go_simp; refine hK _ _ ?_; clear hK KK
                refine wpAny_take (i := 18) (v := ?vo41) rfl (by kernel_rfl) (by kernel_rfl) (by kernel_rfl) (fun _ _ _ h => h) (Or.inl ⟨by rfl, ?hyo41⟩) ?resto41
                case hyo41 => (intro w; go_simp; try with_reducible rfl)
                refine wpAny_ready (rs := [12]) (by kernel_rfl) (by simp) ?_
                refine AllReady.cons rfl (fun KK hK => ?_) AllReady.nil
                refine step_srow rfl (.tmp 50) (.tmp 54) rfl w.heap.size (.slice s1 n1 c1) ([] ++ ys.take i) [(who, r)] (by go_simp) H1.out.1 ⟨w.heap.size, 0, none⟩ 1 1 (by go_simp) rfl HLIM.out.2.1 HONE.out H1.out.2.size ?_; intro s2 n2 c2 w2 ho2 hb2 _; have H2 : Hid (OwnS w.heap.size w2 (.slice s2 n2 c2) (([] ++ ys.take i) ++ [(who, r)]) ∧ Below w.heap.size w w2) := ⟨ho2, H1.out.2.trans hb2⟩; have kq2 : w2.cell? ⟨q, 0, none⟩ = some (.slice (some ⟨g, 0, none⟩) n cap) := (H2.out.2.cell (p := ⟨q, 0, none⟩) HQL.out).trans hlk; clear ho2 hb2; go_simp; refine hK _ _ ?_; clear hK KK
                refine wpAny_ready (rs := [19]) (by kernel_rfl) (by simp) ?_
                refine AllReady.cons rfl (fun KK hK => ?_) AllReady.nil
                refine step_srow rfl (.tmp 55) (.tmp 61) rfl w.heap.size (.slice s2 n2 c2) (([] ++ ys.take i) ++ [(who, r)]) (ys.drop i) (by go_simp) H2.out.1 AD (n - i) (cap - i) (by go_simp) HT2.out HLIM.out.2.2 (HAD.out w2 H2.out.2) H2.out.2.size ?_; intro s3 n3 c3 w3 ho3 hb3 _; obtain ⟨q3, f3, k3, b3⟩ := HEND.out s3 n3 c3 w3 (by rw [← HSP.out]; exact ho3) (H2.out.2.trans hb3); have HK : Hid (KR B (w3.setCell ⟨q, 0, none⟩ (.slice s3 n3 c3)) q (ys.take i ++ (who, r) :: ys.drop i) ∧ Buts [q] w (w3.setCell ⟨q, 0, none⟩ (.slice s3 n3 c3))) := ⟨k3, b3⟩; clear k3 b3 ho3 hb3; go_simp; refine hK _ _ ?_; clear hK KK
                refine wpAny_take (i := 20) (v := ?vo42) rfl (by kernel_rfl) (by kernel_rfl) (by kernel_rfl) (fun _ _ _ h => h) (Or.inl ⟨by rfl, ?hyo42⟩) ?resto42
                case hyo42 => (intro w; go_simp; try with_reducible rfl)
                refine wpAny_take (i := 21) (v := ?vo43) rfl (by kernel_rfl) (by kernel_rfl) (by kernel_rfl) (fun _ _ _ h => h) (Or.inl ⟨by rfl, ?hyo43⟩) ?resto43
                case hyo43 => (intro w; go_simp; try with_reducible rfl)
                refine wpAny_ready (rs := [22]) (by kernel_rfl) (by simp) ?_
                refine AllReady.cons rfl (fun KK hK => ?_) AllReady.nil
                go_simp; refine hK _ _ ?_; clear hK KK
                refine wpAny_done (by kernel_rfl) ?_ _
                go_simp
                go_wp2
                go_ret
                exact ⟨rfl, HK.out.1, HK.out.2⟩
              refine AllReady.cons rfl (fun KK hK => ?_) AllReady.nil
              go_simp; refine hK _ _ ?_; clear hK KK
              refine wpAny_take (i := 18) (v := ?vo44) rfl (by kernel_rfl) (by kernel_rfl) (by kernel_rfl) (fun _ _ _ h => h) (Or.inl ⟨by rfl, ?hyo44⟩) ?resto44
              case hyo44 => (intro w; go_simp; try with_reducible rfl)
              refine wpAny_ready (rs := [7]) (by kernel_rfl) (by simp) ?_
              refine AllReady.cons rfl (fun KK hK => ?_) AllReady.nil
              refine step_srow rfl (.const (.slice none 0 0)) (.tmp 49) rfl w.heap.size (.slice none 0 0) [] (ys.take i) rfl (World.ownsRow_nil _ _ _ _) ⟨g, 0, none⟩ i cap (by go_simp) HT1.out HLIM.out.1 (HTO.out (w.alloc (.cells #[.int .i64 who, .int .i64 r] 66)).drew hd1) hd1.size ?_; intro s1 n1 c1 w1 ho1 hb1 hbb; have H1 : Hid (OwnS w.heap.size w1 (.slice s1 n1 c1) ([] ++ ys.take i) ∧ Below w.heap.size w w1) := ⟨ho1, hd1.trans hb1⟩; have kq1 : w1.cell? ⟨q, 0, none⟩ = some (.slice (some ⟨g, 0, none⟩) n cap) := ((hd1.trans hb1).cell (p := ⟨q, 0, none⟩) HQL.out).trans hlk; have hq1 : q < w1.heap.size := Nat.lt_of_lt_of_le HQL.out (hd1.trans hb1).size; have HONE : Hid (∀ j u, (lks [(who, r)])[j]? = some u → w1.cell? ((⟨w.heap.size, 0, none⟩ : Addr).add j) = some u) := (fun j u hj => by rw [addr_add, (hbb rfl).cell (p := ⟨w.heap.size, 0 + j, none⟩) (by show _ < (w.alloc (.cells #[.int .i64 who, .int .i64 r] 66)).heap.size; rw [alloc_size]; exact Nat.lt_succ_self _), ← addr_add]; exact one_cells w (who, r) j u hj); clear ho1 hb1 hbb; go_simp; refine hK _ _ ?_; clear hK KK
              refine wpAny_ready (rs := [12]) (by kernel_rfl) (by simp) ?_
              refine AllReady.cons rfl (fun KK hK => ?_) AllReady.nil
              refine step_srow rfl (.tmp 50) (.tmp 54) rfl w.heap.size (.slice s1 n1 c1) ([] ++ ys.take i) [(who, r)] (by go_simp) H1.out.1 ⟨w.heap.size, 0, none⟩ 1 1 (by go_simp) rfl HLIM.out.2.1 HONE.out H1.out.2.size ?_; intro s2 n2 c2 w2 ho2 hb2 _; have H2 : Hid (OwnS w.heap.size w2 (.slice s2 n2 c2) (([] ++ ys.take i) ++ [(who, r)]) ∧ Below w.heap.size w w2) := ⟨ho2, H1.out.2.trans hb2⟩; have kq2 : w2.cell? ⟨q, 0, none⟩ = some (.slice (some ⟨g, 0, none⟩) n cap) := (H2.out.2.cell (p := ⟨q, 0, none⟩) HQL.out).trans hlk; clear ho2 hb2; go_simp; refine hK _ _ ?_; clear hK KK
              refine wpAny_ready (rs := [19]) (by kernel_rfl) (by simp) ?_
              refine AllReady.cons rfl (fun KK hK => ?_) AllReady.nil
              refine step_srow rfl (.tmp 55) (.tmp 61) rfl w.heap.size (.slice s2 n2 c2) (([] ++ ys.take i) ++ [(who, r)]) (ys.drop i) (by go_simp) H2.out.1 AD (n - i) (cap - i) (by go_simp) HT2.out HLIM.out.2.2 (HAD.out w2 H2.out.2) H2.out.2.size ?_; intro s3 n3 c3 w3 ho3 hb3 _; obtain ⟨q3, f3, k3, b3⟩ := HEND.out s3 n3 c3 w3 (by rw [← HSP.out]; exact ho3) (H2.out.2.trans hb3); have HK : Hid (KR B (w3.setCell ⟨q, 0, none⟩ (.slice s3 n3 c3)) q (ys.take i ++ (who, r) :: ys.drop i) ∧ Buts [q] w (w3.setCell ⟨q, 0, none⟩ (.slice s3 n3 c3))) := ⟨k3, b3⟩; clear k3 b3 ho3 hb3; go_simp; refine hK _ _ ?_; clear hK KK
              refine wpAny_take (i := 20) (v := ?vo45) rfl (by kernel_rfl) (by kernel_rfl) (by kernel_rfl) (fun _ _ _ h => h) (Or.inl ⟨by rfl, ?hyo45⟩) ?resto45
              case hyo45 => (intro w; go_simp; try with_reducible rfl)
              refine wpAny_take (i := 21) (v := ?vo46) rfl (by kernel_rfl) (by kernel_rfl) (by kernel_rfl) (fun _ _ _ h => h) (Or.inl ⟨by rfl, ?hyo46⟩) ?resto46
              case hyo46 => (intro w; go_simp; try with_reducible rfl)
              refine wpAny_ready (rs := [22]) (by kernel_rfl) (by simp) ?_
              refine AllReady.cons rfl (fun KK hK => ?_) AllReady.nil
              go_simp; refine hK _ _ ?_; clear hK KK
              refine wpAny_done (by kernel_rfl) ?_ _
              go_simp
              go_wp2
              go_ret
              exact ⟨rfl, HK.out.1, HK.out.2⟩
            refine AllReady.cons rfl (fun KK hK => ?_) AllReady.nil
            go_simp; refine hK _ _ ?_; clear hK KK
            refine wpAny_take (i := 18) (v := ?vo47) rfl (by kernel_rfl) (by kernel_rfl) (by kernel_rfl) (fun _ _ _ h => h) (Or.inl ⟨by rfl, ?hyo47⟩) ?resto47
            case hyo47 => (intro w; go_simp; try with_reducible rfl)
            refine wpAny_ready (rs := [4]) (by kernel_rfl) (by simp) ?_
            refine AllReady.cons rfl (fun KK hK => ?_) AllReady.nil
            go_simp; refine hK _ _ ?_; clear hK KK
            refine wpAny_take (i := 6) (v := ?vo48) rfl (by kernel_rfl) (by kernel_rfl) (by kernel_rfl) (fun _ _ _ h => h) (Or.inl ⟨by rfl, ?hyo48⟩) ?resto48
            case hyo48 => (intro w; go_simp; try with_reducible rfl)
            refine wpAny_ready (rs := [7]) (by kernel_rfl) (by simp) ?_
            refine AllReady.cons rfl (fun KK hK => ?_) AllReady.nil
            refine step_srow rfl (.const (.slice none 0 0)) (.tmp 49) rfl w.heap.size (.slice none 0 0) [] (ys.take i) rfl (World.ownsRow_nil _ _ _ _) ⟨g, 0, none⟩ i cap (by go_simp) HT1.out HLIM.out.1 (HTO.out (w.alloc (.cells #[.int .i64 who, .int .i64 r] 66)).drew hd1) hd1.size ?_; intro s1 n1 c1 w1 ho1 hb1 hbb; have H1 : Hid (OwnS w.heap.size w1 (.slice s1 n1 c1) ([] ++ ys.take i) ∧ Below w.heap.size w w1) := ⟨ho1, hd1.trans hb1⟩; have kq1 : w1.cell? ⟨q, 0, none⟩ = some (.slice (some ⟨g, 0, none⟩) n cap) := ((hd1.trans hb1).cell (p := ⟨q, 0, none⟩) HQL.out).trans hlk; have hq1 : q < w1.heap.size := Nat.lt_of_lt_of_le HQL.out (hd1.trans hb1).size; have HONE : Hid (∀ j u, (lks [(who, r)])[j]? = some u → w1.cell? ((⟨w.heap.size, 0, none⟩ : Addr).add j) = some u) := (fun j u hj => by rw [addr_add, (hbb rfl).cell (p := ⟨w.heap.size, 0 + j, none⟩) (by show _ < (w.alloc (.cells #[.int .i64 who, .int .i64 r] 66)).heap.size; rw [alloc_size]; exact Nat.lt_succ_self _), ← addr_add]; exact one_cells w (who, r) j u hj); clear ho1 hb1 hbb; go_simp; refine hK _ _ ?_; clear hK KK
            refine wpAny_ready (rs := [12]) (by kernel_rfl) (by simp) ?_
            refine AllReady.cons rfl (fun KK hK => ?_) AllReady.nil
            refine step_srow rfl (.tmp 50) (.tmp 54) rfl w.heap.size (.slice s1 n1 c1) ([] ++ ys.take i) [(who, r)] (by go_simp) H1.out.1 ⟨w.heap.size, 0, none⟩ 1 1 (by go_simp) rfl HLIM.out.2.1 HONE.out H1.out.2.size ?_; intro s2 n2 c2 w2 ho2 hb2 _; have H2 : Hid (OwnS w.heap.size w2 (.slice s2 n2 c2) (([] ++ ys.take i) ++ [(who, r)]) ∧ Below w.heap.size w w2) := ⟨ho2, H1.out.2.trans hb2⟩; have kq2 : w2.cell? ⟨q, 0, none⟩ = some (.slice (some ⟨g, 0, none⟩) n cap) := (H2.out.2.cell (p := ⟨q, 0, none⟩) HQL.out).trans hlk; clear ho2 hb2; go_simp; refine hK _ _ ?_; clear hK KK
            refine wpAny_ready (rs := [19]) (by kernel_rfl) (by simp) ?_
            refine AllReady.cons rfl (fun KK hK => ?_) AllReady.nil
            refine step_srow rfl (.tmp 55) (.tmp 61) rfl w.heap.size (.slice s2 n2 c2) (([] ++ ys.take i) ++ [(who, r)]) (ys.drop i) (by go_simp) H2.out.1 AD (n - i) (cap - i) (by go_simp) HT2.out HLIM.out.2.2 (HAD.out w2 H2.out.2) H2.out.2.size ?_; intro s3 n3 c3 w3 ho3 hb3 _; obtain ⟨q3, f3, k3, b3⟩ := HEND.out s3 n3 c3 w3 (by rw [← HSP.out]; exact ho3) (H2.out.2.trans hb3); have HK : Hid (KR B (w3.setCell ⟨q, 0, none⟩ (.slice s3 n3 c3)) q (ys.take i ++ (who, r) :: ys.drop i) ∧ Buts [q] w (w3.setCell ⟨q, 0, none⟩ (.slice s3 n3 c3))) := ⟨k3, b3⟩; clear k3 b3 ho3 hb3; go_simp; refine hK _ _ ?_; clear hK KK
            refine wpAny_take (i := 20) (v := ?vo49) rfl (by kernel_rfl) (by kernel_rfl) (by kernel_rfl) (fun _ _ _ h => h) (Or.inl ⟨by rfl, ?hyo49⟩) ?resto49
            case hyo49 => (intro w; go_simp; try with_reducible rfl)
            refine wpAny_take (i := 21) (v := ?vo50) rfl (by kernel_rfl) (by kernel_rfl) (by kernel_rfl) (fun _ _ _ h => h) (Or.inl ⟨by rfl, ?hyo50⟩) ?resto50
            case hyo50 => (intro w; go_simp; try with_reducible rfl)
            refine wpAny_ready (rs := [22]) (by kernel_rfl) (by simp) ?_
            refine AllReady.cons rfl (fun KK hK => ?_) AllReady.nil
            go_simp; refine hK _ _ ?_; clear hK KK
            refine wpAny_done (by kernel_rfl) ?_ _
            go_simp
            go_wp2
            go_ret
            exact ⟨rfl, HK.out.1, HK.out.2⟩
          refine AllReady.cons rfl (fun KK hK => ?_) AllReady.nil
          go_simp; refine hK _ _ ?_; clear hK KK
          refine wpAny_take (i := 18) (v := ?vo51) rfl (by kernel_rfl) (by kernel_rfl) (by kernel_rfl) (fun _ _ _ h => h) (Or.inl ⟨by rfl, ?hyo51⟩) ?resto51
          case hyo51 => (intro w; go_simp; try with_reducible rfl)
          refine wpAny_ready (rs := [4, 11]) (by kernel_rfl) (by simp) ?_
          refine AllReady.cons rfl (fun KK hK => ?_) ?_
          · go_simp; refine hK _ _ ?_; clear hK KK
            refine wpAny_take (i := 6) (v := ?vo52) rfl (by kernel_rfl) (by kernel_rfl) (by kernel_rfl) (fun _ _ _ h => h) (Or.inl ⟨by rfl, ?hyo52⟩) ?resto52
            case hyo52 => (intro w; go_simp; try with_reducible rfl)
            refine wpAny_ready (rs := [7, 11]) (by kernel_rfl) (by simp) ?_
            refine AllReady.cons rfl (fun KK hK => ?_) ?_
            · refine step_srow rfl (.const (.slice none 0 0)) (.tmp 49) rfl w.heap.size (.slice none 0 0) [] (ys.take i) rfl (World.ownsRow_nil _ _ _ _) ⟨g, 0, none⟩ i cap (by go_simp) HT1.out HLIM.out.1 (HTO.out w.drew hd0) hd0.size ?_; intro s1 n1 c1 w1 ho1 hb1 hbb; have H1 : Hid (OwnS w.heap.size w1 (.slice s1 n1 c1) ([] ++ ys.take i) ∧ Below w.heap.size w w1) := ⟨ho1, hd0.trans hb1⟩; have kq1 : w1.cell? ⟨q, 0, none⟩ = some (.slice (some ⟨g, 0, none⟩) n cap) := ((hd0.trans hb1).cell (p := ⟨q, 0, none⟩) HQL.out).trans hlk; have hq1 : q < w1.heap.size := Nat.lt_of_lt_of_le HQL.out (hd0.trans hb1).size; clear ho1 hb1 hbb; go_simp; refine hK _ _ ?_; clear hK KK
              refine wpAny_ready (rs := [11]) (by kernel_rfl) (by simp) ?_
              refine AllReady.cons rfl (fun KK hK => ?_) AllReady.nil
              go_simp; refine hK _ _ ?_; clear hK KK
              refine wpAny_ready (rs := [12]) (by kernel_rfl) (by simp) ?_
              refine AllReady.cons rfl (fun KK hK => ?_) AllReady.nil
              refine step_srow rfl (.tmp 50) (.tmp 54) rfl w.heap.size (.slice s1 n1 c1) ([] ++ ys.take i) [(who, r)] (by go_simp) (H1.out.1.below (alloc_below w1 _)) ⟨w1.heap.size, 0, none⟩ 1 1 (by go_simp) rfl HLIM.out.2.1 (one_cells w1 (who, r)) (Nat.le_trans H1.out.2.size (alloc_below w1 _).size) ?_; intro s2 n2 c2 w2 ho2 hb2 _; have H2 : Hid (OwnS w.heap.size w2 (.slice s2 n2 c2) (([] ++ ys.take i) ++ [(who, r)]) ∧ Below w.heap.size w w2) := ⟨ho2, (H1.out.2.trans ((alloc_below w1 _).mono H1.out.2.size)).trans hb2⟩; have kq2 : w2.cell? ⟨q, 0, none⟩ = some (.slice (some ⟨g, 0, none⟩) n cap) := (H2.out.2.cell (p := ⟨q, 0, none⟩) HQL.out).trans hlk; clear ho2 hb2; go_simp; refine hK _ _ ?_; clear hK KK
              refine wpAny_ready (rs := [19]) (by kernel_rfl) (by simp) ?_
              refine AllReady.cons rfl (fun KK hK => ?_) AllReady.nil
              refine step_srow rfl (.tmp 55) (.tmp 61) rfl w.heap.size (.slice s2 n2 c2) (([] ++ ys.take i) ++ [(who, r)]) (ys.drop i) (by go_simp) H2.out.1 AD (n - i) (cap - i) (by go_simp) HT2.out HLIM.out.2.2 (HAD.out w2 H2.out.2) H2.out.2.size ?_; intro s3 n3 c3 w3 ho3 hb3 _; obtain ⟨q3, f3, k3, b3⟩ := HEND.out s3 n3 c3 w3 (by rw [← HSP.out]; exact ho3) (H2.out.2.trans hb3); have HK : Hid (KR B (w3.setCell ⟨q, 0, none⟩ (.slice s3 n3 c3)) q (ys.take i ++ (who, r) :: ys.drop i) ∧ Buts [q] w (w3.setCell ⟨q, 0, none⟩ (.slice s3 n3 c3))) := ⟨k3, b3⟩; clear k3 b3 ho3 hb3; go_simp; refine hK _ _ ?_; clear hK KK
              refine wpAny_take (i := 20) (v := ?vo53) rfl (by kernel_rfl) (by kernel_rfl) (by kernel_rfl) (fun _ _ _ h => h) (Or.inl ⟨by rfl, ?hyo53⟩) ?resto53
              case hyo53 => (intro w; go_simp; try with_reducible rfl)
              refine wpAny_take (i := 21) (v := ?vo54) rfl (by kernel_rfl) (by kernel_rfl) (by kernel_rfl) (fun _ _ _ h => h) (Or.inl ⟨by rfl, ?hyo54⟩) ?resto54
              case hyo54 => (intro w; go_simp; try with_reducible rfl)
              refine wpAny_ready (rs := [22]) (by kernel_rfl) (by simp) ?_
              refine AllReady.cons rfl (fun KK hK => ?_) AllReady.nil
              go_simp; refine hK _ _ ?_; clear hK KK
              refine wpAny_done (by kernel_rfl) ?_ _
              go_simp
              go_wp2
              go_ret
              exact ⟨rfl, HK.out.1, HK.out.2⟩
            refine AllReady.cons rfl (fun KK hK => ?_) AllReady.nil
            go_simp; refine hK _ _ ?_; clear hK KK
            refine wpAny_ready (rs := [7]) (by kernel_rfl) (by simp) ?_
            refine AllReady.cons rfl (fun KK hK => ?_) AllReady.nil
            refine step_srow rfl (.const (.slice none 0 0)) (.tmp 49) rfl w.heap.size (.slice none 0 0) [] (ys.take i) rfl (World.ownsRow_nil _ _ _ _) ⟨g, 0, none⟩ i cap (by go_simp) HT1.out HLIM.out.1 (HTO.out (w.alloc (.cells #[.int .i64 who, .int .i64 r] 66)).drew hd1) hd1.size ?_; intro s1 n1 c1 w1 ho1 hb1 hbb; have H1 : Hid (OwnS w.heap.size w1 (.slice s1 n1 c1) ([] ++ ys.take i) ∧ Below w.heap.size w w1) := ⟨ho1, hd1.trans hb1⟩; have kq1 : w1.cell? ⟨q, 0, none⟩ = some (.slice (some ⟨g, 0, none⟩) n cap) := ((hd1.trans hb1).cell (p := ⟨q, 0, none⟩) HQL.out).trans hlk; have hq1 : q < w1.heap.size := Nat.lt_of_lt_of_le HQL.out (hd1.trans hb1).size; have HONE : Hid (∀ j u, (lks [(who, r)])[j]? = some u → w1.cell? ((⟨w.heap.size, 0, none⟩ : Addr).add j) = some u) := (fun j u hj => by rw [addr_add, (hbb rfl).cell (p := ⟨w.heap.size, 0 + j, none⟩) (by show _ < (w.alloc (.cells #[.int .i64 who, .int .i64 r] 66)).heap.size; rw [alloc_size]; exact Nat.lt_succ_self _), ← addr_add]; exact one_cells w (who, r) j u hj); clear ho1 hb1 hbb; go_simp; refine hK _ _ ?_; clear hK KK
            refine wpAny_ready (rs := [12]) (by kernel_rfl) (by simp) ?_
            refine AllReady.cons rfl (fun KK hK => ?_) AllReady.nil
            refine step_srow rfl (.tmp 50) (.tmp 54) rfl w.heap.size (.slice s1 n1 c1) ([] ++ ys.take i) [(who, r)] (by go_simp) H1.out.1 ⟨w.heap.size, 0, none⟩ 1 1 (by go_simp) rfl HLIM.out.2.1 HONE.out H1.out.2.size ?_; intro s2 n2 c2 w2 ho2 hb2 _; have H2 : Hid (OwnS w.heap.size w2 (.slice s2 n2 c2) (([] ++ ys.take i) ++ [(who, r)]) ∧ Below w.heap.size w w2) := ⟨ho2, H1.out.2.trans hb2⟩; have kq2 : w2.cell? ⟨q, 0, none⟩ = some (.slice (some ⟨g, 0, none⟩) n cap) := (H2.out.2.cell (p := ⟨q, 0, none⟩) HQL.out).trans hlk; clear ho2 hb2; go_simp; refine hK _ _ ?_; clear hK KK
            refine wpAny_ready (rs := [19]) (by kernel_rfl) (by simp) ?_
            refine AllReady.cons rfl (fun KK hK => ?_) AllReady.nil
            refine step_srow rfl (.tmp 55) (.tmp 61) rfl w.heap.size (.slice s2 n2 c2) (([] ++ ys.take i) ++ [(who, r)]) (ys.drop i) (by go_simp) H2.out.1 AD (n - i) (cap - i) (by go_simp) HT2.out HLIM.out.2.2 (HAD.out w2 H2.out.2) H2.out.2.size ?_; intro s3 n3 c3 w3 ho3 hb3 _; obtain ⟨q3, f3, k3, b3⟩ := HEND.out s3 n3 c3 w3 (by rw [← HSP.out]; exact ho3) (H2.out.2.trans hb3); have HK : Hid (KR B (w3.setCell ⟨q, 0, none⟩ (.slice s3 n3 c3)) q (ys.take i ++ (who, r) :: ys.drop i) ∧ Buts [q] w (w3.setCell ⟨q, 0, none⟩ (.slice s3 n3 c3))) := ⟨k3, b3⟩; clear k3 b3 ho3 hb3; go_simp; refine hK _ _ ?_; clear hK KK
            refine wpAny_take (i := 20) (v := ?vo55) rfl (by kernel_rfl) (by kernel_rfl) (by kernel_rfl) (fun _ _ _ h => h) (Or.inl ⟨by rfl, ?hyo55⟩) ?resto55
            case hyo55 => (intro w; go_simp; try with_reducible rfl)
            refine wpAny_take (i := 21) (v := ?vo56) rfl (by kernel_rfl) (by kernel_rfl) (by kernel_rfl) (fun _ _ _ h => h) (Or.inl ⟨by rfl, ?hyo56⟩) ?resto56
            case hyo56 => (intro w; go_simp; try with_reducible rfl)
            refine wpAny_ready (rs := [22]) (by kernel_rfl) (by simp) ?_
            refine AllReady.cons rfl (fun KK hK => ?_) AllReady.nil
            go_simp; refine hK _ _ ?_; clear hK KK
            refine wpAny_done (by kernel_rfl) ?_ _
            go_simp
            go_wp2
            go_ret
            exact ⟨rfl, HK.out.1, HK.out.2⟩
          refine AllReady.cons rfl (fun KK hK => ?_) AllReady.nil
          go_simp; refine hK _ _ ?_; clear hK KK
          refine wpAny_ready (rs := [4]) (by kernel_rfl) (by simp) ?_
          refine AllReady.cons rfl (fun KK hK => ?_) AllReady.nil
          go_simp; refine hK _ _ ?_; clear hK KK
          refine wpAny_take (i := 6) (v := ?vo57) rfl (by kernel_rfl) (by kernel_rfl) (by kernel_rfl) (fun _ _ _ h => h) (Or.inl ⟨by rfl, ?hyo57⟩) ?resto57
          case hyo57 => (intro w; go_simp; try with_reducible rfl)
          refine wpAny_ready (rs := [7]) (by kernel_rfl) (by simp) ?_
          refine AllReady.cons rfl (fun KK hK => ?_) AllReady.nil
          refine step_srow rfl (.const (.slice none 0 0)) (.tmp 49) rfl w.heap.size (.slice none 0 0) [] (ys.take i) rfl (World.ownsRow_nil _ _ _ _) ⟨g, 0, none⟩ i cap (by go_simp) HT1.out HLIM.out.1 (HTO.out (w.alloc (.cells #[.int .i64 who, .int .i64 r] 66)).drew hd1) hd1.size ?_; intro s1 n1 c1 w1 ho1 hb1 hbb; have H1 : Hid (OwnS w.heap.size w1 (.slice s1 n1 c1) ([] ++ ys.take i) ∧ Below w.heap.size w w1) := ⟨ho1, hd1.trans hb1⟩; have kq1 : w1.cell? ⟨q, 0, none⟩ = some (.slice (some ⟨g, 0, none⟩) n cap) := ((hd1.trans hb1).cell (p := ⟨q, 0, none⟩) HQL.out).trans hlk; have hq1 : q < w1.heap.size := Nat.lt_of_lt_of_le HQL.out (hd1.trans hb1).size; have HONE : Hid (∀ j u, (lks [(who, r)])[j]? = some u → w1.cell? ((⟨w.heap.size, 0, none⟩ : Addr).add j) = some u) := (fun j u hj => by rw [addr_add, (hbb rfl).cell (p := ⟨w.heap.size, 0 + j, none⟩) (by show _ < (w.alloc (.cells #[.int .i64 who, .int .i64 r] 66)).heap.size; rw [alloc_size]; exact Nat.lt_succ_self _), ← addr_add]; exact one_cells w (who, r) j u hj); clear ho1 hb1 hbb; go_simp; refine hK _ _ ?_; clear hK KK
          refine wpAny_ready (rs := [12]) (by kernel_rfl) (by simp) ?_
          refine AllReady.cons rfl (fun KK hK => ?_) AllReady.nil
          refine step_srow rfl (.tmp 50) (.tmp 54) rfl w.heap.size (.slice s1 n1 c1) ([] ++ ys.take i) [(who, r)] (by go_simp) H1.out.1 ⟨w.heap.size, 0, none⟩ 1 1 (by go_simp) rfl HLIM.out.2.1 HONE.out H1.out.2.size ?_; intro s2 n2 c2 w2 ho2 hb2 _; have H2 : Hid (OwnS w.heap.size w2 (.slice s2 n2 c2) (([] ++ ys.take i) ++ [(who, r)]) ∧ Below w.heap.size w w2) := ⟨ho2, H1.out.2.trans hb2⟩; have kq2 : w2.cell? ⟨q, 0, none⟩ = some (.slice (some ⟨g, 0, none⟩) n cap) := (H2.out.2.cell (p := ⟨q, 0, none⟩) HQL.out).trans hlk; clear ho2 hb2; go_simp; refine hK _ _ ?_; clear hK KK
          refine wpAny_ready (rs := [19]) (by kernel_rfl) (by simp) ?_
          refine AllReady.cons rfl (fun KK hK => ?_) AllReady.nil
          refine step_srow rfl (.tmp 55) (.tmp 61) rfl w.heap.size (.slice s2 n2 c2) (([] ++ ys.take i) ++ [(who, r)]) (ys.drop i) (by go_simp) H2.out.1 AD (n - i) (cap - i) (by go_simp) HT2.out HLIM.out.2.2 (HAD.out w2 H2.out.2) H2.out.2.size ?_; intro s3 n3 c3 w3 ho3 hb3 _; obtain ⟨q3, f3, k3, b3⟩ := HEND.out s3 n3 c3 w3 (by rw [← HSP.out]; exact ho3) (H2.out.2.trans hb3); have HK : Hid (KR B (w3.setCell ⟨q, 0, none⟩ (.slice s3 n3 c3)) q (ys.take i ++ (who, r) :: ys.drop i) ∧ Buts [q] w (w3.setCell ⟨q, 0, none⟩ (.slice s3 n3 c3))) := ⟨k3, b3⟩; clear k3 b3 ho3 hb3; go_simp; refine hK _ _ ?_; clear hK KK
          refine wpAny_take (i := 20) (v := ?vo58) rfl (by kernel_rfl) (by kernel_rfl) (by kernel_rfl) (fun _ _ _ h => h) (Or.inl ⟨by rfl, ?hyo58⟩) ?resto58
          case hyo58 => (intro w; go_simp; try with_reducible rfl)
          refine wpAny_take (i := 21) (v := ?vo59) rfl (by kernel_rfl) (by kernel_rfl) (by kernel_rfl) (fun _ _ _ h => h) (Or.inl ⟨by rfl, ?hyo59⟩) ?resto59
          case hyo59 => (intro w; go_simp; try with_reducible rfl)
          refine wpAny_ready (rs := [22]) (by kernel_rfl) (by simp) ?_
          refine AllReady.cons rfl (fun KK hK => ?_) AllReady.nil
          go_simp; refine hK _ _ ?_; clear hK KK
          refine wpAny_done (by kernel_rfl) ?_ _
          go_simp
          go_wp2
          go_ret
          exact ⟨rfl, HK.out.1, HK.out.2⟩
end Go.Proofs.YtmdhlgdikchhlaaDoor
