/- States of a list, and what each call makes of them; the statements' own helpers: 'alive' answers true, 'filled' makes a list of sleepers. -/
import Derived.Test.YtdifgjioaikchaaSame
import Derived.Test.YtdifgjioaikchaaArgs
namespace Go.Proofs.Ytdifgjioaikchaa
open Go Go.RowKit
set_option maxRecDepth 100000
set_option linter.unusedVariables false
set_option linter.unusedSimpArgs false
/-- a list at p, since w0 -/
def At (B : Nat) (w0 w : World) (p : Nat) (ys : List (Int × Int)) : Prop := (∃ v, Lst B w p v ys) ∧ Below B w0 w ∧ w0.heap.size = B
/-- rows of numbers lie as they lay -/
def KW (w w' : World) : Prop := ∀ (g : Nat) (cs : Array Value) (f : Nat × Nat), w.heap[g]? = some (Obj.cells cs 3 f) → w'.heap[g]? = some (Obj.cells cs 3 f)
theorem KW.trans {a b c : World} (h : KW a b) (k : KW b c) : KW a c := fun g cs f hg => k g cs f (h g cs f hg)
theorem KW.below {w w' : World} (h : Below w.heap.size w w') : KW w w' := fun g cs f hg => (h.block g (at_lt hg)).trans hg
theorem owns_kw {w w' : World} {B : Nat} {s n : Nat} {v : Value} {xs : List Value} (h : w.ownsRow B 3 s v n xs) (k : KW w w') : w'.ownsRow B 3 s v n xs :=
  owns_of h fun g hg => by
    rcases h.2 with ⟨rfl, _⟩ | ⟨g', cap, cur, rfl, _, hh, _⟩
    · cases hg
    · obtain rfl : g' = g := by simpa [Value.ownBlock] using hg
      rw [hh]; exact k _ _ _ hh
theorem Lst.size {B : Nat} {w : World} {p : Nat} {v : Value} {ys : List (Int × Int)} (h : Lst B w p v ys) : B ≤ w.heap.size := by have := h.ch.low; have := at_lt h.ch.head; omega
theorem Lst.kw {B : Nat} {w w' : World} {p : Nat} {v : Value} {ys : List (Int × Int)} (h : Lst B w p v ys) (hb : Buts (p :: v.ownBlock.toList) w w') : KW w w' := fun g cs f hg => by
  rw [hb.block g (at_lt hg) (fun hm => ?_)]
  · exact hg
  · rcases List.mem_cons.1 hm with e | e
    · rw [e, h.ch.head] at hg; simp at hg
    · obtain ⟨cur, hc⟩ := h.ch.own.kind (g := g) (by simpa using e)
      rw [hc] at hg; simp at hg
theorem Lst.bel {B : Nat} {w w' : World} {p : Nat} {v : Value} {ys : List (Int × Int)} (h : Lst B w p v ys) (hb : Buts (p :: v.ownBlock.toList) w w') : Below B w w' :=
  hb.below (fun x hx => by
    rcases List.mem_cons.1 hx with e | e
    · rw [e]; exact h.ch.low
    · exact (h.ch.own.lt' (g := x) (by simpa using e)).1) h.size
theorem At.of {B : Nat} {w0 w w' : World} {p : Nat} {v : Value} {ys zs : List (Int × Int)} (h : Lst B w p v ys) (hb : Below B w0 w) (hz : w0.heap.size = B) (n : Nt B w w' p v zs) : At B w0 w' p zs ∧ KW w w' := by
  obtain ⟨v', h1, h2, _⟩ := n
  exact ⟨⟨⟨v', h1⟩, hb.trans (h.bel h2), hz⟩, h.kw h2⟩
theorem At.below {B : Nat} {w0 w w' : World} {p : Nat} {ys : List (Int × Int)} (h : At B w0 w p ys) (hb : Below w.heap.size w w') : At B w0 w' p ys := by
  obtain ⟨⟨v, hv⟩, h2, h3⟩ := h
  exact ⟨⟨v, hv.below hb⟩, h2.trans (hb.mono hv.size), h3⟩
theorem At.size {B : Nat} {w0 w : World} {p : Nat} {ys : List (Int × Int)} (h : At B w0 w p ys) : B ≤ w.heap.size := by obtain ⟨⟨v, hv⟩, _⟩ := h; exact hv.size
theorem At.len {B : Nat} {w0 w : World} {p : Nat} {ys : List (Int × Int)} (h : At B w0 w p ys) : ys.length ≤ 1000 := by obtain ⟨⟨v, hv⟩, _⟩ := h; exact hv.len
theorem At.good {B : Nat} {w0 w : World} {p : Nat} {ys : List (Int × Int)} (h : At B w0 w p ys) : Good ys := by obtain ⟨⟨v, hv⟩, _⟩ := h; exact hv.good
theorem new_at (w0 : World) {B : Nat} (hB : w0.heap.size = B) (w : World) (hb : Below B w0 w) : Calls Try.prog 16 #[] w fun e w' => e = .returned (.pointer (some ⟨w.heap.size, 0, none⟩)) ∧ At B w0 w' w.heap.size [] ∧ KW w w' := by
  refine (new_any w B (by have := hb.size; omega)).mono ?_
  rintro e w' ⟨rfl, hl, hb'⟩
  exact ⟨rfl, ⟨⟨_, hl⟩, hb.trans (hb'.mono (by have := hb.size; omega)), hB⟩, KW.below hb'⟩
theorem put_at {B : Nat} {w0 w : World} {p : Nat} {ys zs : List (Int × Int)} {e0 : Int} (h : At B w0 w p ys) (who t : Int) (hl : ys.length < 1000) (he : putE ys who t = e0) (hz : putL ys who t = zs) :
    Calls Try.prog 9 #[.pointer (some ⟨p, 0, none⟩), .int .i64 who, .int .i64 t] w fun e w' => e = .returned (.int .i64 e0) ∧ At B w0 w' p zs ∧ KW w w' := by
  subst he hz
  obtain ⟨⟨v, hv⟩, h2, h3⟩ := h
  refine (put_is hv who t hl hv.size).mono ?_
  rintro e w' ⟨rfl, hn⟩
  exact ⟨rfl, At.of hv h2 h3 hn⟩
theorem rem_at {B : Nat} {w0 w : World} {p : Nat} {ys zs : List (Int × Int)} {e0 : Int} (h : At B w0 w p ys) (who : Int) (he : remE ys who = e0) (hz : gone ys who = zs) :
    Calls Try.prog 10 #[.pointer (some ⟨p, 0, none⟩), .int .i64 who] w fun e w' => e = .returned (.int .i64 e0) ∧ At B w0 w' p zs ∧ KW w w' := by
  subst he hz
  obtain ⟨⟨v, hv⟩, h2, h3⟩ := h
  refine (remove_is hv who).mono ?_
  rintro e w' ⟨rfl, hn⟩
  exact ⟨rfl, At.of hv h2 h3 hn⟩
theorem left_at {B : Nat} {w0 w : World} {p : Nat} {ys : List (Int × Int)} {l0 e0 : Int} (h : At B w0 w p ys) (who : Int) (hl : leftV ys who = l0) (he : remE ys who = e0) :
    Calls Try.prog 8 #[.pointer (some ⟨p, 0, none⟩), .int .i64 who] w fun e w' => e = .returned (.tuple #[.int .i64 l0, .int .i64 e0]) ∧ At B w0 w' p ys ∧ KW w w' := by
  subst he hl
  have h' := h
  obtain ⟨⟨v, hv⟩, h2, h3⟩ := h
  refine (left_is hv who).mono ?_
  rintro e w' ⟨rfl, hb⟩
  exact ⟨rfl, h'.below hb, KW.below hb⟩
theorem tick_at {B : Nat} {w0 w : World} {p : Nat} {ys zs : List (Int × Int)} {ws : List Int} {n : Nat} (h : At B w0 w p ys) (hw : woke ys = ws) (hn : ws.length = n) (hz : rest ys = zs) :
    Calls Try.prog 11 #[.pointer (some ⟨p, 0, none⟩)] w fun e w' => ∃ us uc, e = .returned (.slice us n uc) ∧ w'.ownsRow B 3 1 (.slice us n uc) n (num ws) ∧ At B w0 w' p zs ∧ KW w w' := by
  subst hw hz hn
  obtain ⟨⟨v, hv⟩, h2, h3⟩ := h
  refine (tick_is hv hv.size).mono ?_
  rintro e w' ⟨u, rfl, hr, _, hn⟩
  obtain ⟨us, uc, e, _⟩ := own_form hr
  subst e
  exact ⟨us, uc, rfl, owns_base hr hv.size, At.of hv h2 h3 hn⟩
theorem all_at {B : Nat} {w0 w : World} {p : Nat} {ys : List (Int × Int)} {ws : List Int} {n : Nat} (h : At B w0 w p ys) (hw : allOf ys = ws) (hn : ws.length = n) :
    Calls Try.prog 12 #[.pointer (some ⟨p, 0, none⟩)] w fun e w' => ∃ us uc, e = .returned (.slice us n uc) ∧ w'.ownsRow B 3 1 (.slice us n uc) n (num ws) ∧ At B w0 w' p ys ∧ KW w w' := by
  have h' := h
  obtain ⟨⟨v, hv⟩, h2, h3⟩ := h
  have hl : ys.length = n := by rw [← hn, ← hw, allOf_len]
  refine (all_is hv).mono ?_
  rintro e w' ⟨rfl, hr, hb⟩
  rw [hw] at hr
  rw [hl]
  refine ⟨_, _, rfl, ?_, h'.below hb, KW.below hb⟩
  have := own_row hr hv.size (by rw [hn, ← hl]; have := hv.len; omega)
  rw [hn] at this
  exact this
theorem same_at {w : World} {B C n : Nat} {us vs : Option Addr} {uc vc : Nat} {zs : List Int} (h1 : w.ownsRow B 3 1 (.slice us n uc) n (num zs)) (h2 : w.ownsRow C 3 1 (.slice vs n vc) n (num zs)) (hl : n ≤ 1000000) :
    Calls Try.prog 15 #[.slice us n uc, .slice vs n vc] w fun e w' => e = .returned (.bool true) ∧ Below w.heap.size w w' := by
  have hz : zs.length = n := by have := h1.1; rw [num_len, Nat.mul_one] at this; exact this
  subst hz
  obtain ⟨sp, c, e, hs⟩ := Src.own h1
  obtain ⟨tp, d, e2, ht⟩ := Src.own h2
  simp only [Value.slice.injEq] at e e2
  obtain ⟨rfl, _, rfl⟩ := e
  obtain ⟨rfl, _, rfl⟩ := e2
  exact same_yes hs ht hl _ _
/-- a list that is written down -/
theorem lit_own (w : World) (zs : List Int) (n : Nat) (hn : zs.length = n) (hm : n ≤ 1000) : (w.alloc (.cells (num zs).toArray 3)).ownsRow w.heap.size 3 1 (.slice (some ⟨w.heap.size, 0, none⟩) n n) n (num zs) := by
  have := World.ownsRow_lit (base := w.heap.size) (e := 3) (size := 1) w (num zs).toArray n (Nat.le_refl _) (by simp only [maxLen]; omega) (by simp [num_len, hn])
  simpa using this
theorem lit1 (w : World) (a : Int) : (w.alloc (.cells #[.int .i64 a] 3)).ownsRow w.heap.size 3 1 (.slice (some ⟨w.heap.size, 0, none⟩) 1 1) 1 (num [a]) := lit_own w [a] 1 rfl (by omega)
theorem lit2 (w : World) (a b : Int) : (w.alloc (.cells #[.int .i64 a, .int .i64 b] 3)).ownsRow w.heap.size 3 1 (.slice (some ⟨w.heap.size, 0, none⟩) 2 2) 2 (num [a, b]) := lit_own w [a, b] 2 rfl (by omega)
theorem lit3 (w : World) (a b c : Int) : (w.alloc (.cells #[.int .i64 a, .int .i64 b, .int .i64 c] 3)).ownsRow w.heap.size 3 1 (.slice (some ⟨w.heap.size, 0, none⟩) 3 3) 3 (num [a, b, c]) := lit_own w [a, b, c] 3 rfl (by omega)
theorem nil_own (w : World) (B : Nat) : w.ownsRow B 3 1 (.slice none 0 0) 0 (num []) := World.ownsRow_nil _ _ _ _
set_option maxHeartbeats 1000000 in
theorem alive_any (w : World) : Calls Try.prog 13 #[] w fun e w' => e = .returned (.bool true) ∧ Below w.heap.size w w' := by
  go_enter Try.func13, Try.ntmps13
  go_wp2_with (first
    | (go_at_call 16; refine (new_at w rfl _ (Below.refl _ _)).mono ?_; rintro e w0 ⟨rfl, ha, hk⟩; have H0 : Hid (At w.heap.size w w0 w.heap.size []) := ha; clear ha hk)
    | (go_at_call 9; refine (put_at H0.out (7) 3 (e0 := 0) (zs := [(7, 3)]) (by decide) (by decide) (by decide)).mono ?_; rintro e w1 ⟨rfl, ha, hk⟩; have H1 : Hid (At w.heap.size w w1 w.heap.size [(7, 3)]) := ha; clear ha hk H0)
    | (go_at_call 9; refine (put_at H1.out (8) 1 (e0 := 0) (zs := [(7, 3), (8, 1)]) (by decide) (by decide) (by decide)).mono ?_; rintro e w2 ⟨rfl, ha, hk⟩; have H2 : Hid (At w.heap.size w w2 w.heap.size [(7, 3), (8, 1)]) := ha; clear ha hk H1)
    | (go_at_call 9; refine (put_at H2.out (9) 3 (e0 := 0) (zs := [(7, 3), (8, 1), (9, 3)]) (by decide) (by decide) (by decide)).mono ?_; rintro e w3 ⟨rfl, ha, hk⟩; have H3 : Hid (At w.heap.size w w3 w.heap.size [(7, 3), (8, 1), (9, 3)]) := ha; clear ha hk H2)
    | (go_at_call 9; refine (put_at H3.out (7) 1 (e0 := 7) (zs := [(7, 3), (8, 1), (9, 3)]) (by decide) (by decide) (by decide)).mono ?_; rintro e w4 ⟨rfl, ha, hk⟩; have H4 : Hid (At w.heap.size w w4 w.heap.size [(7, 3), (8, 1), (9, 3)]) := ha; clear ha hk H3)
    | (go_at_call 9; refine (put_at H4.out (-1) 1 (e0 := 1) (zs := [(7, 3), (8, 1), (9, 3)]) (by decide) (by decide) (by decide)).mono ?_; rintro e w5 ⟨rfl, ha, hk⟩; have H5 : Hid (At w.heap.size w w5 w.heap.size [(7, 3), (8, 1), (9, 3)]) := ha; clear ha hk H4)
    | (go_at_call 9; refine (put_at H5.out (1) 0 (e0 := 1) (zs := [(7, 3), (8, 1), (9, 3)]) (by decide) (by decide) (by decide)).mono ?_; rintro e w6 ⟨rfl, ha, hk⟩; have H6 : Hid (At w.heap.size w w6 w.heap.size [(7, 3), (8, 1), (9, 3)]) := ha; clear ha hk H5)
    | (go_at_call 9; refine (put_at H6.out (1) 1073741825 (e0 := 1) (zs := [(7, 3), (8, 1), (9, 3)]) (by decide) (by decide) (by decide)).mono ?_; rintro e w7 ⟨rfl, ha, hk⟩; have H7 : Hid (At w.heap.size w w7 w.heap.size [(7, 3), (8, 1), (9, 3)]) := ha; clear ha hk H6)
    | (go_at_call 10; refine (rem_at H7.out 5 (e0 := 1) (zs := [(7, 3), (8, 1), (9, 3)]) (by decide) (by decide)).mono ?_; rintro e w8 ⟨rfl, ha, hk⟩; have H8 : Hid (At w.heap.size w w8 w.heap.size [(7, 3), (8, 1), (9, 3)]) := ha; clear ha hk H7)
    | (go_at_call 12; refine (all_at H8.out (ws := [8, 7, 9]) (n := 3) (by decide) rfl).mono ?_; rintro e w9 ⟨ua, ca, rfl, hr, ha, hk⟩; have H9 : Hid (At w.heap.size w w9 w.heap.size [(7, 3), (8, 1), (9, 3)]) := ha; have RA : Hid (w9.ownsRow w.heap.size 3 1 (.slice ua 3 ca) 3 (num [8, 7, 9])) := hr; clear ha hk hr H8)
    | (go_at_call 11; refine (tick_at H9.out (ws := [8]) (n := 1) (zs := [(7, 2), (9, 2)]) (by decide) rfl (by decide)).mono ?_; rintro e w10 ⟨ub, cb, rfl, hr, ha, hk⟩; have H10 : Hid (At w.heap.size w w10 w.heap.size [(7, 2), (9, 2)]) := ha; have RB : Hid (w10.ownsRow w.heap.size 3 1 (.slice ub 1 cb) 1 (num [8])) := hr; replace RA := (show Hid _ from owns_kw RA.out hk); clear ha hk hr H9)
    | (go_at_call 8; refine (left_at H10.out 9 (l0 := 2) (e0 := 0) (by decide) (by decide)).mono ?_; rintro e w11 ⟨rfl, ha, hk⟩; have H11 : Hid (At w.heap.size w w11 w.heap.size [(7, 2), (9, 2)]) := ha; replace RA := (show Hid _ from owns_kw RA.out hk); replace RB := (show Hid _ from owns_kw RB.out hk); clear ha hk H10)
    | (go_at_call 11; refine (tick_at H11.out (ws := []) (n := 0) (zs := [(7, 1), (9, 1)]) (by decide) rfl (by decide)).mono ?_; rintro e w12 ⟨uc, cc, rfl, hr, ha, hk⟩; have H12 : Hid (At w.heap.size w w12 w.heap.size [(7, 1), (9, 1)]) := ha; replace RA := (show Hid _ from owns_kw RA.out hk); replace RB := (show Hid _ from owns_kw RB.out hk); clear ha hk hr H11)
    | (go_at_call 11; refine (tick_at H12.out (ws := [7, 9]) (n := 2) (zs := []) (by decide) rfl (by decide)).mono ?_; rintro e w13 ⟨ud, cd, rfl, hr, ha, hk⟩; have H13 : Hid (At w.heap.size w w13 w.heap.size []) := ha; have RD : Hid (w13.ownsRow w.heap.size 3 1 (.slice ud 2 cd) 2 (num [7, 9])) := hr; replace RA := (show Hid _ from owns_kw RA.out hk); replace RB := (show Hid _ from owns_kw RB.out hk); clear ha hk hr H12)
    | (go_at_call 15; refine (same_at (owns_kw RA.out (KW.below (alloc_below w13 (.cells #[.int .i64 8, .int .i64 7, .int .i64 9] 3)))) (lit3 w13 8 7 9) (by omega)).mono ?_; rintro e w14 ⟨rfl, hb⟩; have hbb := (alloc_below w13 (.cells #[.int .i64 8, .int .i64 7, .int .i64 9] 3)).trans (hb.mono (by rw [alloc_size]; omega)); have H14 : Hid (At w.heap.size w w14 w.heap.size []) := H13.out.below hbb; replace RB := (show Hid _ from owns_kw RB.out (KW.below hbb)); replace RD := (show Hid _ from owns_kw RD.out (KW.below hbb)); clear hb hbb H13 RA)
    | (go_at_call 15; refine (same_at (owns_kw RB.out (KW.below (alloc_below w14 (.cells #[.int .i64 8] 3)))) (lit1 w14 8) (by omega)).mono ?_; rintro e w15 ⟨rfl, hb⟩; have hbb := (alloc_below w14 (.cells #[.int .i64 8] 3)).trans (hb.mono (by rw [alloc_size]; omega)); have H15 : Hid (At w.heap.size w w15 w.heap.size []) := H14.out.below hbb; replace RD := (show Hid _ from owns_kw RD.out (KW.below hbb)); clear hb hbb H14 RB)
    | (go_at_call 15; refine (same_at (owns_kw RD.out (KW.below (alloc_below w15 (.cells #[.int .i64 7, .int .i64 9] 3)))) (lit2 w15 7 9) (by omega)).mono ?_; rintro e w16 ⟨rfl, hb⟩; have hbb := (alloc_below w15 (.cells #[.int .i64 7, .int .i64 9] 3)).trans (hb.mono (by rw [alloc_size]; omega)); have H16 : Hid (At w.heap.size w w16 w.heap.size []) := H15.out.below hbb; clear hb hbb H15 RD)
    | (go_at_call 11; refine (tick_at H16.out (ws := []) (n := 0) (zs := []) (by decide) rfl (by decide)).mono ?_; rintro e w17 ⟨ue, ce, rfl, hr, ha, hk⟩; have H17 : Hid (At w.heap.size w w17 w.heap.size []) := ha; clear ha hk hr H16))
  go_ret
  exact ⟨rfl, H17.out.2.1⟩
/-- sleepers 0 and on, each for so many ticks and one -/
def fil (zs : List Int) (i : Nat) : List (Int × Int) := (List.range i).map (fun (k : Nat) => ((k : Int), zs.getD k 0 + 1))
theorem fil_len (zs : List Int) (i : Nat) : (fil zs i).length = i := by simp [fil]
theorem fil_has (zs : List Int) (i : Nat) : has (fil zs i) (i : Int) = false := by
  rw [has_no]
  intro y hy
  obtain ⟨k, hk, rfl⟩ := List.mem_map.1 hy
  have := List.mem_range.1 hk
  show (k : Int) ≠ (i : Int)
  omega
theorem fil_put {zs : List Int} {i : Nat} (h : 0 ≤ zs.getD i 0 ∧ zs.getD i 0 ≤ 255) : putE (fil zs i) (i : Int) (zs.getD i 0 + 1) = 0 ∧ putL (fil zs i) (i : Int) (zs.getD i 0 + 1) = fil zs (i + 1) := by
  have hb : ¬ badArg (i : Int) (zs.getD i 0 + 1) := by unfold badArg; omega
  refine ⟨by rw [putE, if_neg hb, fil_has]; rfl, ?_⟩
  rw [putL, if_neg hb, fil_has, if_neg (by simp)]
  simp [fil, List.range_succ]
set_option maxHeartbeats 2000000 in
theorem filled_any {B : Nat} {w0 w : World} {sp : Option Addr} {zs : List Int} (hs : BSrc B w0 sp zs) (hl : zs.length ≤ 100) (c : Nat) (hB : w0.heap.size = B) (hb : Below B w0 w) :
    Calls Try.prog 14 #[.slice sp zs.length c] w fun e w' => e = .returned (.pointer (some ⟨w.heap.size, 0, none⟩)) ∧ At B w0 w' w.heap.size (fil zs zs.length) ∧ KW w w' := by
  have HS : Hid (BSrc B w0 sp zs) := hs
  have HB : Hid (Below B w0 w) := hb
  have HZ : Hid (w0.heap.size = B) := hB
  obtain ⟨n, hn⟩ : ∃ n, zs.length = n := ⟨_, rfl⟩
  have HN : Hid (zs.length = n) := hn
  obtain ⟨p, hp⟩ : ∃ p, w.heap.size = p := ⟨_, rfl⟩
  have HP : Hid (w.heap.size = p) := hp
  rw [hn] at hl ⊢
  rw [hp]
  clear hs hb hn hB
  go_enter Try.func14, Try.ntmps14
  go_wp2_with (go_at_call 16; refine (new_at w0 HZ.out w HB.out).mono ?_; rw [HP.out]; rintro e w1 ⟨rfl, ha, hk⟩; have H1 : Hid (At B w0 w1 p []) := ha; have K1 : Hid (KW w w1) := hk; clear ha hk)
  go_loopg [4] n (fun g s4 wx => ∃ i : Nat, i + g = n ∧ s4 = .int .i64 i ∧ Hid (At B w0 wx p (fil zs i)) ∧ Hid (KW w wx))
  case atStart => exact ⟨0, by omega, rfl, H1, K1⟩
  case round =>
    clear H1 K1
    obtain ⟨i, hig, rfl, HA, HK⟩ := hrel
    cases gk with
    | zero =>
      have hlt : ¬ ((i : Int) < n) := by omega
      go_wp2
      go_ret
      obtain rfl : i = n := by omega
      exact ⟨rfl, HA.out, HK.out⟩
    | succ g =>
      have hlt : (i : Int) < n := by omega
      obtain ⟨b, off, hsp, hbB, hc⟩ := HS.out.spot (by have := HN.out; omega)
      subst hsp
      have k1 := (HA.out.2.1.cell (p := ⟨b, off + i, none⟩) hbB).trans (hc i (by have := HN.out; omega))
      have hz := HS.out.at i
      have HP2 : Hid (putE (fil zs i) (i : Int) (zs.getD i 0 + 1) = 0 ∧ putL (fil zs i) (i : Int) (zs.getD i 0 + 1) = fil zs (i + 1)) := fil_put hz
      clear hc
      generalize zs.getD i 0 = z at *
      have hw : IntKind.i64.wrap z = z := by rw [IntKind.wrap_i64]; omega
      have hw1 : IntKind.i64.wrap (z + 1) = z + 1 := by rw [IntKind.wrap_i64]; omega
      go_wp2_with (go_at_call 9; refine (put_at HA.out (i : Int) (z + 1) (by rw [fil_len]; omega) HP2.out.1 HP2.out.2).mono ?_; rintro e w2 ⟨rfl, ha, hk⟩; have H2 : Hid (At B w0 w2 p (fil zs (i + 1))) := ha; have K2 : Hid (KW w w2) := HK.out.trans hk; clear ha hk)
      go_roundg g
      case measure => omega
      case rel => exact ⟨i + 1, by omega, by go_num, H2, K2⟩
end Go.Proofs.Ytdifgjioaikchaa
