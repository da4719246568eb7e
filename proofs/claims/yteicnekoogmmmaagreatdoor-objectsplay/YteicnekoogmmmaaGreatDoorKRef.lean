/- The document's own thing, as it lies in memory; how it is made. -/
import Derived.Test.YteicnekoogmmmaaGreatDoorKMay
namespace Go.Proofs.YteicnekoogmmmaaGreatDoor
open Go Go.RowKit
set_option maxRecDepth 100000
set_option linter.unusedVariables false
theorem make_words (w : World) (c : Nat) (hc : c ≤ 1000000) :
    (Instr.makeSlice 53 (.int .u32 c) (.int .u32 c)).run Tryz.prog w = .ok (.slice (some ⟨w.heap.size, 0, none⟩) c c) (w.alloc (.cells (wrd (List.replicate c 0)).toArray 23)) := by
  obtain ⟨i, hi, he⟩ := Option.map_eq_some_iff.1 Pl.infoW
  have h1 : i.zero = some (.int .u32 0) := by simpa using congrArg Prod.fst he
  have h2 : i.size = 1 := by simpa using congrArg (fun x => x.2.1) he
  have h3 : i.bytes = 4 := by simpa using congrArg (fun x => x.2.2) he
  have := run_make w 53 23 i (.int .u32 0) Tryz.underlying53 hi h1 .u32 .u32 c c (by omega) (by omega) (by rw [h3]; omega) (by omega)
  rw [this, h2, Nat.mul_one, Pl.made_zero]
  rfl
def kc (k a b : Int) (n : Nat) (o : Int) (u v : Value) : Array Value := #[.int .u8 k, .int .u32 a, .int .u32 b, .int .u32 (n : Nat), .int .u32 o, u, v]
def Owr (w : World) (z : Nat) (v : Value) (zs : List Int) : Prop := (v = .slice none 0 0 ∧ zs = []) ∨ (v = .slice (some ⟨z, 0, none⟩) zs.length zs.length ∧ Row w z zs)
structure KR (s : Nat) (w : World) (q z : Nat) (u v : Value) (T : Sx) : Prop where
  head : Blk w q (kc T.k T.a T.b T.n T.o u v) 67
  row : Lst w s u T.xs
  own : Owr w z v T.zs
  qs : q < s
  zs : z < s
  emp : T.xs = [] → u = .slice none 0 0
  emz : T.zs = [] → v = .slice none 0 0
theorem Row.buts' {w w' : World} {z : Nat} {ys : List Int} {l : List Nat} (h : Row w z ys) (hb : Buts l w w') (hz : z ∉ l) : Row w' z ys := Blk.buts (t := 23) h hb hz
theorem Row.below' {w w' : World} {z : Nat} {ys : List Int} (h : Row w z ys) (hb : Below w.heap.size w w') : Row w' z ys := Blk.below (t := 23) h hb
theorem Owr.buts {w w' : World} {z : Nat} {v : Value} {zs : List Int} {l : List Nat} (h : Owr w z v zs) (hb : Buts l w w') (hz : z ∉ l) : Owr w' z v zs := by
  rcases h with h | ⟨h1, h2⟩
  · exact Or.inl h
  · exact Or.inr ⟨h1, h2.buts' hb hz⟩
theorem Lst.buts {w w' : World} {B : Nat} {v : Value} {xs : List Int} {l : List Nat} (h : Lst w B v xs) (hb : Buts l w w') (hl : ∀ g, v.ownBlock = some g → g ∉ l) : Lst w' B v xs := owns_buts h hb hl
theorem KR.buts {s : Nat} {w w' : World} {q z : Nat} {u v : Value} {T : Sx} {l : List Nat} (h : KR s w q z u v T) (hb : Buts l w w') (h1 : q ∉ l) (h2 : z ∉ l) (h3 : ∀ g, u.ownBlock = some g → g ∉ l) : KR s w' q z u v T :=
  ⟨h.head.buts hb h1, h.row.buts hb h3, h.own.buts hb h2, h.qs, h.zs, h.emp, h.emz⟩
theorem KR.below {s : Nat} {w w' : World} {q z : Nat} {u v : Value} {T : Sx} (h : KR s w q z u v T) (hb : Below w.heap.size w w') : KR s w' q z u v T := h.buts (Buts.of (l := []) hb) (by simp) (by simp) (fun _ _ => by simp)
theorem alloc2 (w : World) (o : Obj) (cs : Array Value) (t : TypeId) (h : o = .cells cs t) : Blk (w.alloc o) w.heap.size cs t := by subst h; exact alloc_at w _
/-- behind 'New' -/
def Kn (w w' : World) (q z : Nat) (v : Value) (k a b : Int) (n : Nat) (zs : List Int) : Prop := Blk w' q (kc k a b n 0 (.slice none 0 0) v) 67 ∧ Owr w' z v zs ∧ w.heap.size ≤ q ∧ w.heap.size ≤ z ∧ q < w'.heap.size ∧ z < w'.heap.size ∧ Below w.heap.size w w' ∧ (zs = [] → v = .slice none 0 0)
theorem kn_one {w w1 : World} {k a b : Int} (n : Nat) (hb : Below w.heap.size w w1) : Kn w (w1.alloc (.cells (kc k a b n 0 (.slice none 0 0) (.slice none 0 0)) 67)) w1.heap.size w1.heap.size (.slice none 0 0) k a b n [] := by
  have h2 := alloc_below w1 (.cells (kc k a b n 0 (.slice none 0 0) (.slice none 0 0)) 67)
  have h3 := alloc_size w1 (.cells (kc k a b n 0 (.slice none 0 0) (.slice none 0 0)) 67)
  exact ⟨alloc_at w1 _, Or.inl ⟨rfl, rfl⟩, hb.size, hb.size, by omega, by omega, hb.trans (h2.mono hb.size), fun _ => rfl⟩
theorem kn_two {w w1 : World} {k a b : Int} (m : Nat) (h1 : 1 ≤ m) (hb : Below w.heap.size w w1) : Kn w ((w1.alloc (.cells (kc k a b 0 0 (.slice none 0 0) (.slice (some ⟨w1.heap.size + 1, 0, none⟩) m m)) 67)).alloc (.cells (wrd (List.replicate m 0)).toArray 23)) w1.heap.size (w1.heap.size + 1) (.slice (some ⟨w1.heap.size + 1, 0, none⟩) m m) k a b 0 (List.replicate m 0) := by
  have h2 := alloc_below w1 (.cells (kc k a b 0 0 (.slice none 0 0) (.slice (some ⟨w1.heap.size + 1, 0, none⟩) m m)) 67)
  have s2 := alloc_size w1 (.cells (kc k a b 0 0 (.slice none 0 0) (.slice (some ⟨w1.heap.size + 1, 0, none⟩) m m)) 67)
  have h3 := alloc_below (w1.alloc (.cells (kc k a b 0 0 (.slice none 0 0) (.slice (some ⟨w1.heap.size + 1, 0, none⟩) m m)) 67)) (.cells (wrd (List.replicate m 0)).toArray 23)
  have s3 := alloc_size (w1.alloc (.cells (kc k a b 0 0 (.slice none 0 0) (.slice (some ⟨w1.heap.size + 1, 0, none⟩) m m)) 67)) (.cells (wrd (List.replicate m 0)).toArray 23)
  refine ⟨Blk.below (alloc_at w1 _) h3, Or.inr ⟨by simp, ?_⟩, hb.size, by have := hb.size; omega, by omega, by omega, (hb.trans (h2.mono hb.size)).trans (h3.mono (by have := hb.size; omega)), fun e => by rw [List.replicate_eq_nil_iff] at e; omega⟩
  have h4 := alloc_at (w1.alloc (.cells (kc k a b 0 0 (.slice none 0 0) (.slice (some ⟨w1.heap.size + 1, 0, none⟩) m m)) 67)) (.cells (wrd (List.replicate m 0)).toArray 23)
  rw [s2] at h4
  exact h4
set_option maxHeartbeats 2000000 in
theorem knew_num {w : World} {k b : Int} (a : Nat) (hk : k = 1 ∨ k = 4) (h : May k (a : Nat) b) :
    Calls Tryz.prog 6 #[.agg #[.int .u8 k, .int .u32 (a : Nat), .int .u32 b]] w fun e w' => ∃ q z v, e = .returned (.tuple #[.pointer (some ⟨q, 0, none⟩), .int .i64 0]) ∧ Kn w w' q z v k (a : Nat) b a [] := by
  have HM := kmay_yes (w := w.alloc (.cells #[.int .u8 k, .int .u32 (a : Nat), .int .u32 b] 25)) h
  have H0 : Hid (Blk (w.alloc (.cells #[.int .u8 k, .int .u32 (a : Nat), .int .u32 b] 25)) w.heap.size #[.int .u8 k, .int .u32 (a : Nat), .int .u32 b] 25) := alloc_at w _
  have HB0 : Hid (Below w.heap.size w (w.alloc (.cells #[.int .u8 k, .int .u32 (a : Nat), .int .u32 b] 25))) := alloc_below w _
  rcases hk with rfl | rfl
  all_goals
    clear h
    go_enter Tryz.func6, Tryz.ntmps6
    go_wp2_with (first
      | (go_at_call 17; refine HM.mono ?_; rintro e w1 ⟨rfl, hb⟩; have K0 := H0.out.below hb; have k0 := K0.cell 0; have k1 := K0.cell 1; have k2 := K0.cell 2; simp only [List.getElem?_toArray, List.getElem?_cons_zero, List.getElem?_cons_succ] at k0 k1 k2; have kl := K0.lt; have HB : Hid (Below w.heap.size w w1) := HB0.out.trans (hb.mono HB0.out.size); clear hb K0))
    go_ret2
    exact ⟨_, _, _, rfl, kn_one a HB.out⟩
set_option maxHeartbeats 2000000 in
theorem knew_pool {w : World} {k b : Int} (a : Nat) (hk : k = 5) (ha : a ≤ 64) (h1 : 1 ≤ a) (h : May k (a : Nat) b) :
    Calls Tryz.prog 6 #[.agg #[.int .u8 k, .int .u32 (a : Nat), .int .u32 b]] w fun e w' => ∃ q z v, e = .returned (.tuple #[.pointer (some ⟨q, 0, none⟩), .int .i64 0]) ∧ Kn w w' q z v k (a : Nat) b 0 (List.replicate a 0) := by
  have HM := kmay_yes (w := w.alloc (.cells #[.int .u8 k, .int .u32 (a : Nat), .int .u32 b] 25)) h
  have H0 : Hid (Blk (w.alloc (.cells #[.int .u8 k, .int .u32 (a : Nat), .int .u32 b] 25)) w.heap.size #[.int .u8 k, .int .u32 (a : Nat), .int .u32 b] 25) := alloc_at w _
  have HB0 : Hid (Below w.heap.size w (w.alloc (.cells #[.int .u8 k, .int .u32 (a : Nat), .int .u32 b] 25))) := alloc_below w _
  have hmk := fun w => make_words w a (by omega)
  subst hk
  all_goals
    clear h
    go_enter Tryz.func6, Tryz.ntmps6
    go_wp2_with (first
      | (go_at_call 17; refine HM.mono ?_; rintro e w1 ⟨rfl, hb⟩; have K0 := H0.out.below hb; have k0 := K0.cell 0; have k1 := K0.cell 1; have k2 := K0.cell 2; simp only [List.getElem?_toArray, List.getElem?_cons_zero, List.getElem?_cons_succ] at k0 k1 k2; have kl := K0.lt; have HB : Hid (Below w.heap.size w w1) := HB0.out.trans (hb.mono HB0.out.size); clear hb K0))
    go_ret2
    exact ⟨_, _, _, rfl, kn_two a h1 HB.out⟩
set_option maxHeartbeats 2000000 in
theorem knew_else {w : World} {k b : Int} (a : Nat) (hk : k = 2 ∨ k = 3 ∨ k = 6) (h : May k (a : Nat) b) :
    Calls Tryz.prog 6 #[.agg #[.int .u8 k, .int .u32 (a : Nat), .int .u32 b]] w fun e w' => ∃ q z v, e = .returned (.tuple #[.pointer (some ⟨q, 0, none⟩), .int .i64 0]) ∧ Kn w w' q z v k (a : Nat) b 0 [] := by
  have HM := kmay_yes (w := w.alloc (.cells #[.int .u8 k, .int .u32 (a : Nat), .int .u32 b] 25)) h
  have H0 : Hid (Blk (w.alloc (.cells #[.int .u8 k, .int .u32 (a : Nat), .int .u32 b] 25)) w.heap.size #[.int .u8 k, .int .u32 (a : Nat), .int .u32 b] 25) := alloc_at w _
  have HB0 : Hid (Below w.heap.size w (w.alloc (.cells #[.int .u8 k, .int .u32 (a : Nat), .int .u32 b] 25))) := alloc_below w _
  rcases hk with rfl | rfl | rfl
  all_goals
    clear h
    go_enter Tryz.func6, Tryz.ntmps6
    go_wp2_with (first
      | (go_at_call 17; refine HM.mono ?_; rintro e w1 ⟨rfl, hb⟩; have K0 := H0.out.below hb; have k0 := K0.cell 0; have k1 := K0.cell 1; have k2 := K0.cell 2; simp only [List.getElem?_toArray, List.getElem?_cons_zero, List.getElem?_cons_succ] at k0 k1 k2; have kl := K0.lt; have HB : Hid (Below w.heap.size w w1) := HB0.out.trans (hb.mono HB0.out.size); clear hb K0))
    go_ret2
    exact ⟨_, _, _, rfl, kn_one 0 HB.out⟩
theorem knew_x {w : World} {k a b : Int} (ha : 0 ≤ a ∧ a ≤ 4294967295) (h : May k a b) :
    Calls Tryz.prog 6 #[.agg #[.int .u8 k, .int .u32 a, .int .u32 b]] w fun e w' => ∃ q z v, e = .returned (.tuple #[.pointer (some ⟨q, 0, none⟩), .int .i64 0]) ∧ Kn w w' q z v k a b (if k = 1 ∨ k = 4 then a.toNat else 0) (if k = 5 then List.replicate a.toNat 0 else []) := by
  obtain ⟨n, rfl⟩ := Int.eq_ofNat_of_zero_le ha.1
  have hm := h
  unfold May at hm
  by_cases h1 : k = 1 ∨ k = 4
  · rw [if_pos h1, if_neg (by omega)]
    exact knew_num n h1 h
  · by_cases h5 : k = 5
    · rw [if_neg h1, if_pos h5]
      exact knew_pool n h5 (by omega) (by omega) h
    · rw [if_neg h1, if_neg h5]
      exact knew_else n (by omega) h
theorem knew_no {w : World} {k a b : Int} (h : ¬ May k a b) :
    Calls Tryz.prog 6 #[.agg #[.int .u8 k, .int .u32 a, .int .u32 b]] w fun e w' => e = .returned (.tuple #[.pointer none, .int .i64 1]) ∧ Below w.heap.size w w' := by
  have HM := kmay_no (w := w.alloc (.cells #[.int .u8 k, .int .u32 a, .int .u32 b] 25)) h
  have HB0 : Hid (Below w.heap.size w (w.alloc (.cells #[.int .u8 k, .int .u32 a, .int .u32 b] 25))) := alloc_below w _
  clear h
  go_enter Tryz.func6, Tryz.ntmps6
  go_wp2_with (first
    | (go_at_call 17; refine HM.mono ?_; rintro e w1 ⟨rfl, hb⟩; have HB : Hid (Below w.heap.size w w1) := HB0.out.trans (hb.mono HB0.out.size); clear hb))
  go_ret2
  exact ⟨rfl, HB.out⟩
end Go.Proofs.YteicnekoogmmmaaGreatDoor
