/- States of alarms, and what each call makes of them; the statements' own 'lives' answers true. -/
import Derived.Test.YtciafjmljmeimaaDoorATop
import Derived.Test.YtciafjmljmeimaaDoorDSame
namespace Go.Proofs.YtciafjmljmeimaaDoor
open Go Go.RowKit
set_option maxRecDepth 100000
set_option linter.unusedVariables false
set_option linter.unusedSimpArgs false
/-- alarms at p, since w0 -/
def At (B : Nat) (w0 w : World) (p mb tb n : Nat) (zs : List Alm) : Prop := (∃ v, Al B w p mb tb n v zs) ∧ Below B w0 w ∧ w0.heap.size = B
/-- all cells lie as they lay, but those of lists of sleepers -/
def KW (w w' : World) : Prop := ∀ (g : Nat) (cs : Array Value) (t : TypeId) (f : Nat × Nat), t ≠ 70 → t ≠ 137 → w.heap[g]? = some (Obj.cells cs t f) → w'.heap[g]? = some (Obj.cells cs t f)
theorem KW.trans {a b c : World} (h : KW a b) (k : KW b c) : KW a c := fun g cs t f h1 h2 hg => k g cs t f h1 h2 (h g cs t f h1 h2 hg)
theorem KW.below {w w' : World} (h : Below w.heap.size w w') : KW w w' := fun g cs t f _ _ hg => (h.block g (at_lt hg)).trans hg
theorem owns_kw {w w' : World} {B : Nat} {s n : Nat} {v : Value} {xs : List Value} (h : w.ownsRow B 3 s v n xs) (k : KW w w') : w'.ownsRow B 3 s v n xs :=
  owns_of h fun g hg => by
    rcases h.2 with ⟨rfl, _⟩ | ⟨g', cap, cur, rfl, _, hh, _⟩
    · cases hg
    · obtain rfl : g' = g := by simpa [Value.ownBlock] using hg
      rw [hh]; exact k _ _ _ _ (by decide) (by decide) hh
theorem Al.size {B : Nat} {w : World} {p mb tb n : Nat} {v : Value} {zs : List Alm} (h : Al B w p mb tb n v zs) : B ≤ w.heap.size := by have := h.ax.low.1; have := at_lt h.ax.blk; omega
theorem Al.kw {B : Nat} {w w' : World} {p mb tb n : Nat} {v : Value} {zs : List Alm} (h : Al B w p mb tb n v zs) (hb : Buts (pts mb tb v) w w') : KW w w' := fun g cs t f ht1 ht2 hg => by
  rw [hb.block g (at_lt hg) (fun hm => ?_)]
  · exact hg
  · rcases mem_pts.1 hm with e | e | e
    · obtain ⟨es, c, hc⟩ := h.ax.em.isMap
      rw [e, hc] at hg; cases hg
    · rw [e, h.ax.ls.ch.head] at hg
      simp only [Option.some.injEq, Obj.cells.injEq] at hg
      exact ht1 hg.2.1.symm
    · obtain ⟨cur, hc⟩ := h.ax.ls.ch.own.kind e
      rw [hc] at hg
      simp only [Option.some.injEq, Obj.cells.injEq] at hg
      exact ht2 hg.2.1.symm
theorem Al.bel {B : Nat} {w w' : World} {p mb tb n : Nat} {v : Value} {zs : List Alm} (h : Al B w p mb tb n v zs) (hb : Buts (pts mb tb v) w w') : Below B w w' :=
  hb.below (fun x hx => by
    rcases mem_pts.1 hx with e | e | e
    · rw [e]; exact h.ax.low.2
    · rw [e]; exact h.ax.ls.ch.low
    · exact (h.ax.ls.ch.own.lt' e).1) h.size
theorem At.of {B : Nat} {w0 w w' : World} {p mb tb n m : Nat} {v : Value} {ys zs : List Alm} (h : Al B w p mb tb n v ys) (hb : Below B w0 w) (hz : w0.heap.size = B) (k : NxL B w w' p mb tb m v zs) : At B w0 w' p mb tb m zs ∧ KW w w' := by
  obtain ⟨v', h1, h2, _⟩ := k
  exact ⟨⟨⟨v', h1⟩, hb.trans (h.bel h2), hz⟩, h.kw h2⟩
theorem At.below {B : Nat} {w0 w w' : World} {p mb tb n : Nat} {ys : List Alm} (h : At B w0 w p mb tb n ys) (hb : Below w.heap.size w w') : At B w0 w' p mb tb n ys := by
  obtain ⟨⟨v, hv⟩, h2, h3⟩ := h
  exact ⟨⟨v, hv.below hb⟩, h2.trans (hb.mono hv.size), h3⟩
theorem At.size {B : Nat} {w0 w : World} {p mb tb n : Nat} {ys : List Alm} (h : At B w0 w p mb tb n ys) : B ≤ w.heap.size := by obtain ⟨⟨v, hv⟩, _⟩ := h; exact hv.size
theorem At.len {B : Nat} {w0 w : World} {p mb tb n : Nat} {ys : List Alm} (h : At B w0 w p mb tb n ys) : ys.length ≤ 1000 := by obtain ⟨⟨v, hv⟩, _⟩ := h; exact hv.len
theorem At.fine {B : Nat} {w0 w : World} {p mb tb n : Nat} {ys : List Alm} (h : At B w0 w p mb tb n ys) : Fine ys := by obtain ⟨⟨v, hv⟩, _⟩ := h; exact hv.fine
theorem new_at (w0 : World) {B : Nat} (hB : w0.heap.size = B) (w : World) (hb : Below B w0 w) : Calls Tryd.prog 5 #[] w fun e w' => ∃ p mb tb, e = .returned (.pointer (some ⟨p, 0, none⟩)) ∧ At B w0 w' p mb tb 0 [] ∧ KW w w' := by
  refine (anew_any w B (by have := hb.size; omega)).mono ?_
  rintro e w' ⟨p, mb, tb, rfl, hl, hb', _⟩
  exact ⟨p, mb, tb, rfl, ⟨⟨_, hl⟩, hb.trans (hb'.mono (by have := hb.size; omega)), hB⟩, KW.below hb'⟩
theorem start_at {B : Nat} {w0 w : World} {p mb tb n m : Nat} {ys zs : List Alm} {e0 : Int} (h : At B w0 w p mb tb n ys) (who i e : Int) (hs : S64 who) (hl : ys.length < 1000) (hn : n ≤ 100000) (hm : n + 1 = m) (he : startE who i e = e0) (hz : startL ys who i e = zs) :
    Calls Tryd.prog 7 #[.pointer (some ⟨p, 0, none⟩), .int .i64 who, .int .i64 i, .int .i64 e] w fun x w' => x = .returned (.int .i64 e0) ∧ At B w0 w' p mb tb m zs ∧ KW w w' := by
  subst he hz hm
  obtain ⟨⟨v, hv⟩, h2, h3⟩ := h
  refine (start_is hv hs i e hl hn hv.size).mono ?_
  rintro x w' ⟨rfl, hn⟩
  exact ⟨rfl, At.of hv h2 h3 hn⟩
theorem stop_at {B : Nat} {w0 w : World} {p mb tb n : Nat} {ys zs : List Alm} {e0 : Int} (h : At B w0 w p mb tb n ys) (who : Int) (hs : S64 who) (he : stopE ys who = e0) (hz : off ys who = zs) :
    Calls Tryd.prog 9 #[.pointer (some ⟨p, 0, none⟩), .int .i64 who] w fun e w' => e = .returned (.int .i64 e0) ∧ At B w0 w' p mb tb n zs ∧ KW w w' := by
  subst he hz
  obtain ⟨⟨v, hv⟩, h2, h3⟩ := h
  refine (stop_is hv hs).mono ?_
  rintro e w' ⟨rfl, hn⟩
  exact ⟨rfl, At.of hv h2 h3 hn⟩
theorem left_at {B : Nat} {w0 w : World} {p mb tb n : Nat} {ys : List Alm} {l0 : Int} (h : At B w0 w p mb tb n ys) (who : Int) (hl : leftA ys who = l0) :
    Calls Tryd.prog 15 #[.pointer (some ⟨p, 0, none⟩), .int .i64 who] w fun e w' => e = .returned (.int .i64 l0) ∧ At B w0 w' p mb tb n ys ∧ KW w w' := by
  subst hl
  have h' := h
  obtain ⟨⟨v, hv⟩, h2, h3⟩ := h
  refine (aleft_is hv who).mono ?_
  rintro e w' ⟨rfl, hb⟩
  exact ⟨rfl, h'.below hb, KW.below hb⟩
theorem tick_at {B : Nat} {w0 w : World} {p mb tb n : Nat} {ys zs : List Alm} {ws : List Int} {k : Nat} (h : At B w0 w p mb tb n ys) (hw : (due ys).map Prod.fst = ws) (hn : ws.length = k) (hz : tickL ys = zs) :
    Calls Tryd.prog 11 #[.pointer (some ⟨p, 0, none⟩)] w fun e w' => ∃ us uc, e = .returned (.slice us k uc) ∧ w'.ownsRow B 3 1 (.slice us k uc) k (num ws) ∧ At B w0 w' p mb tb n zs ∧ KW w w' := by
  subst hw hz hn
  obtain ⟨⟨v, hv⟩, h2, h3⟩ := h
  refine (atick_is hv hv.size).mono ?_
  rintro e w' ⟨us, uc, rfl, hr, hn⟩
  rw [List.length_map]
  exact ⟨us, uc, rfl, owns_base hr hv.size, At.of hv h2 h3 hn⟩
theorem same_at {w : World} {B C n : Nat} {us vs : Option Addr} {uc vc : Nat} {zs : List Int} (h1 : w.ownsRow B 3 1 (.slice us n uc) n (num zs)) (h2 : w.ownsRow C 3 1 (.slice vs n vc) n (num zs)) (hl : n ≤ 1000000) :
    Calls Tryd.prog 12 #[.slice us n uc, .slice vs n vc] w fun e w' => e = .returned (.bool true) ∧ Below w.heap.size w w' := by
  have hz : zs.length = n := by have := h1.1; rw [num_len, Nat.mul_one] at this; exact this
  subst hz
  obtain ⟨sp, c, e, hs⟩ := Src.own h1
  obtain ⟨tp, d, e2, ht⟩ := Src.own h2
  simp only [Value.slice.injEq] at e e2
  obtain ⟨rfl, _, rfl⟩ := e
  obtain ⟨rfl, _, rfl⟩ := e2
  exact same_yes hs ht hl _ _
/-- a list that is written down -/
theorem lit_own (w : World) (zs : List Int) (n : Nat) (hn : zs.length = n) (hm : n ≤ 1000) : (w.alloc (.cells (num zs).toArray 3)).ownsRow w.heap.size 3 1 (.slice (some ⟨w.heap.size, 0, none⟩) n n) n (num zs) := by
  have := World.ownsRow_lit (base := w.heap.size) (e := 3) (size := 1) w (num zs).toArray n (Nat.le_refl _) (by simp only [maxLen]; omega) (by simp [num_len, hn])
  simpa using this
theorem lit1 (w : World) (a : Int) : (w.alloc (.cells #[.int .i64 a] 3)).ownsRow w.heap.size 3 1 (.slice (some ⟨w.heap.size, 0, none⟩) 1 1) 1 (num [a]) := lit_own w [a] 1 rfl (by omega)
theorem lit2 (w : World) (a b : Int) : (w.alloc (.cells #[.int .i64 a, .int .i64 b] 3)).ownsRow w.heap.size 3 1 (.slice (some ⟨w.heap.size, 0, none⟩) 2 2) 2 (num [a, b]) := lit_own w [a, b] 2 rfl (by omega)
theorem s64 (z : Int) (h : -1000 ≤ z) (k : z ≤ 1000) : S64 z := by unfold S64; omega
set_option maxHeartbeats 2000000 in
theorem lives_any (w : World) : Calls Tryd.prog 4 #[] w fun e w' => e = .returned (.bool true) ∧ Below w.heap.size w w' := by
  go_enter Tryd.func4, Tryd.ntmps4
  go_wp2_with (first
    | (go_at_call 7; have _ := H13.out; refine (start_no _ _ _ _).mono ?_; rintro e w14 ⟨rfl, rfl⟩)
    | (go_at_call 15; have _ := H13.out; refine (aleft_no _ _).mono ?_; rintro e w15 ⟨rfl, rfl⟩)
    | (go_at_call 5; refine (new_at w rfl _ (Below.refl _ _)).mono ?_; rintro e w0 ⟨p, mb, tb, rfl, ha, hk⟩; have H0 : Hid (At w.heap.size w w0 p mb tb 0 []) := ha; clear ha hk)
    | (go_at_call 7; refine (start_at H0.out 1 2 0 (s64 _ (by decide) (by decide)) (by decide) (by decide) (m := 1) rfl (e0 := 0) (zs := [(1, 2, 0)]) (by decide) (by decide)).mono ?_; rintro e w1 ⟨rfl, ha, hk⟩; have H1 : Hid (At w.heap.size w w1 p mb tb 1 [(1, 2, 0)]) := ha;  clear ha hk H0)
    | (go_at_call 7; refine (start_at H1.out 2 1 1 (s64 _ (by decide) (by decide)) (by decide) (by decide) (m := 2) rfl (e0 := 0) (zs := [(1, 2, 0), (2, 1, 1)]) (by decide) (by decide)).mono ?_; rintro e w2 ⟨rfl, ha, hk⟩; have H2 : Hid (At w.heap.size w w2 p mb tb 2 [(1, 2, 0), (2, 1, 1)]) := ha;  clear ha hk H1)
    | (go_at_call 11; refine (tick_at H2.out (ws := [2]) (k := 1) (zs := [(1, 1, 0), (2, 1, 1)]) (by decide) rfl (by decide)).mono ?_; rintro e w3 ⟨xa, xc, rfl, hr, ha, hk⟩; have H3 : Hid (At w.heap.size w w3 p mb tb 2 [(1, 1, 0), (2, 1, 1)]) := ha;  have RA : Hid (w3.ownsRow w.heap.size 3 1 (.slice xa 1 xc) 1 (num [2])) := hr; clear ha hk hr H2)
    | (go_at_call 11; refine (tick_at H3.out (ws := [1, 2]) (k := 2) (zs := [(2, 1, 1)]) (by decide) rfl (by decide)).mono ?_; rintro e w4 ⟨ya, yc, rfl, hr, ha, hk⟩; have H4 : Hid (At w.heap.size w w4 p mb tb 2 [(2, 1, 1)]) := ha; replace RA := (show Hid _ from owns_kw RA.out hk); have RB : Hid (w4.ownsRow w.heap.size 3 1 (.slice ya 2 yc) 2 (num [1, 2])) := hr; clear ha hk hr H3)
    | (go_at_call 11; refine (tick_at H4.out (ws := [2]) (k := 1) (zs := [(2, 1, 1)]) (by decide) rfl (by decide)).mono ?_; rintro e w5 ⟨za, zc, rfl, hr, ha, hk⟩; have H5 : Hid (At w.heap.size w w5 p mb tb 2 [(2, 1, 1)]) := ha; replace RA := (show Hid _ from owns_kw RA.out hk); replace RB := (show Hid _ from owns_kw RB.out hk); have RD : Hid (w5.ownsRow w.heap.size 3 1 (.slice za 1 zc) 1 (num [2])) := hr; clear ha hk hr H4)
    | (go_at_call 12; refine (same_at (owns_kw RA.out (KW.below (alloc_below w5 (.cells #[.int .i64 2] 3)))) (lit1 w5 2) (by omega)).mono ?_; rintro e w6 ⟨rfl, hb⟩; have hbb := (alloc_below w5 (.cells #[.int .i64 2] 3)).trans (hb.mono (by rw [alloc_size]; omega)); have H6 : Hid (At w.heap.size w w6 p mb tb 2 [(2, 1, 1)]) := H5.out.below hbb; replace RB := (show Hid _ from owns_kw RB.out (KW.below hbb)); replace RD := (show Hid _ from owns_kw RD.out (KW.below hbb)); clear hb hbb H5 RA)
    | (go_at_call 12; refine (same_at (owns_kw RB.out (KW.below (alloc_below w6 (.cells #[.int .i64 1, .int .i64 2] 3)))) (lit2 w6 1 2) (by omega)).mono ?_; rintro e w7 ⟨rfl, hb⟩; have hbb := (alloc_below w6 (.cells #[.int .i64 1, .int .i64 2] 3)).trans (hb.mono (by rw [alloc_size]; omega)); have H7 : Hid (At w.heap.size w w7 p mb tb 2 [(2, 1, 1)]) := H6.out.below hbb; replace RD := (show Hid _ from owns_kw RD.out (KW.below hbb)); clear hb hbb H6 RB)
    | (go_at_call 12; refine (same_at (owns_kw RD.out (KW.below (alloc_below w7 (.cells #[.int .i64 2] 3)))) (lit1 w7 2) (by omega)).mono ?_; rintro e w8 ⟨rfl, hb⟩; have hbb := (alloc_below w7 (.cells #[.int .i64 2] 3)).trans (hb.mono (by rw [alloc_size]; omega)); have H8 : Hid (At w.heap.size w w8 p mb tb 2 [(2, 1, 1)]) := H7.out.below hbb;  clear hb hbb H7 RD)
    | (go_at_call 15; refine (left_at H8.out 1 (l0 := 0) (by decide)).mono ?_; rintro e w9 ⟨rfl, ha, hk⟩; have H9 : Hid (At w.heap.size w w9 p mb tb 2 [(2, 1, 1)]) := ha;  clear ha hk H8)
    | (go_at_call 15; refine (left_at H9.out 2 (l0 := 1) (by decide)).mono ?_; rintro e w10 ⟨rfl, ha, hk⟩; have H10 : Hid (At w.heap.size w w10 p mb tb 2 [(2, 1, 1)]) := ha;  clear ha hk H9)
    | (go_at_call 9; refine (stop_at H10.out 1 (s64 _ (by decide) (by decide)) (e0 := 7) (zs := [(2, 1, 1)]) (by decide) (by decide)).mono ?_; rintro e w11 ⟨rfl, ha, hk⟩; have H11 : Hid (At w.heap.size w w11 p mb tb 2 [(2, 1, 1)]) := ha;  clear ha hk H10)
    | (go_at_call 9; refine (stop_at H11.out 2 (s64 _ (by decide) (by decide)) (e0 := 0) (zs := []) (by decide) (by decide)).mono ?_; rintro e w12 ⟨rfl, ha, hk⟩; have H12 : Hid (At w.heap.size w w12 p mb tb 2 []) := ha;  clear ha hk H11)
    | (go_at_call 11; refine (tick_at H12.out (ws := []) (k := 0) (zs := []) (by decide) rfl (by decide)).mono ?_; rintro e w13 ⟨ua, uc, rfl, hr, ha, hk⟩; have H13 : Hid (At w.heap.size w w13 p mb tb 2 []) := ha;  have RE : Hid (w13.ownsRow w.heap.size 3 1 (.slice ua 0 uc) 0 (num [])) := hr; clear ha hk hr H12))
  go_ret
  exact ⟨rfl, H13.out.2.1⟩
end Go.Proofs.YtciafjmljmeimaaDoor
