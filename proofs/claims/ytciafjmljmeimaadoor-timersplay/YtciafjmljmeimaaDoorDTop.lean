/- A list of those that sleep: one contract for each call. -/
import Derived.Test.YtciafjmljmeimaaDoorDTick
import Derived.Test.YtciafjmljmeimaaDoorDAdd
namespace Go.Proofs.YtciafjmljmeimaaDoor
open Go Go.RowKit
set_option maxRecDepth 100000
set_option linter.unusedVariables false
set_option linter.unusedSimpArgs false
/-- whether somebody sleeps -/
def has (ys : List (Int × Int)) (who : Int) : Bool := ys.any (fun y => decide (y.1 = who))
theorem has_yes {ys : List (Int × Int)} {who : Int} : has ys who = true ↔ ∃ y ∈ ys, y.1 = who := by simp [has]
theorem has_no {ys : List (Int × Int)} {who : Int} : has ys who = false ↔ ∀ y ∈ ys, y.1 ≠ who := by simp [has]
def badArg (who t : Int) : Prop := who < 0 ∨ t < 1 ∨ 1073741824 < t
instance (who t : Int) : Decidable (badArg who t) := inferInstanceAs (Decidable (who < 0 ∨ t < 1 ∨ 1073741824 < t))
def putE (ys : List (Int × Int)) (who t : Int) : Int := if badArg who t then 1 else if has ys who then 7 else 0
def putL (ys : List (Int × Int)) (who t : Int) : List (Int × Int) := if badArg who t then ys else if has ys who then ys else ys ++ [(who, t)]
def remE (ys : List (Int × Int)) (who : Int) : Int := if has ys who then 0 else 1
def leftV (ys : List (Int × Int)) (who : Int) : Int := ((ys.find? (fun y => decide (y.1 = who))).map Prod.snd).getD 0
theorem leftV_at {ys : List (Int × Int)} (hk : Keys ys) {y : Int × Int} (h : y ∈ ys) : leftV ys y.1 = y.2 := by
  unfold leftV
  cases hf : ys.find? (fun z => decide (z.1 = y.1)) with
  | none => have := List.find?_eq_none.1 hf y h; simp at this
  | some z =>
    have h1 := List.find?_some hf
    have h2 := List.mem_of_find?_eq_some hf
    rw [keys_eq hk h2 h (by simpa using h1)]
    rfl
theorem leftV_no {ys : List (Int × Int)} {who : Int} (h : has ys who = false) : leftV ys who = 0 := by
  unfold leftV
  rw [List.find?_eq_none.2 (fun y hy => by simpa using has_no.1 h y hy)]
  rfl
theorem gone_no {ys : List (Int × Int)} {who : Int} (h : has ys who = false) : gone ys who = ys := by
  unfold gone
  rw [List.filter_eq_self]
  intro y hy
  simpa using has_no.1 h y hy
/-- a list at block p: those that sleep, in the order in which they were put -/
structure Lst (B : Nat) (w : World) (p : Nat) (v : Value) (ys : List (Int × Int)) : Prop where
  ch : Ch B w p v (dl 0 (srt ys))
  good : Good ys
theorem Lst.buts {B : Nat} {w w' : World} {p : Nat} {v : Value} {ys : List (Int × Int)} {l : List Nat} (h : Lst B w p v ys) (hb : Buts l w w') (hp : p ∉ l) (hl : ∀ g, v.ownBlock = some g → g ∉ l) : Lst B w' p v ys := ⟨h.ch.buts hb hp hl, h.good⟩
theorem Lst.below {B : Nat} {w w' : World} {p : Nat} {v : Value} {ys : List (Int × Int)} (h : Lst B w p v ys) (hb : Below w.heap.size w w') : Lst B w' p v ys := ⟨h.ch.below hb, h.good⟩
theorem Lst.len {B : Nat} {w : World} {p : Nat} {v : Value} {ys : List (Int × Int)} (h : Lst B w p v ys) : ys.length ≤ 1000 := by have := h.ch.len; rw [dl_len, srt_len] at this; exact this
theorem Lst.bnd {B : Nat} {w : World} {p : Nat} {v : Value} {ys : List (Int × Int)} (h : Lst B w p v ys) : Bnd (srt ys) := fun x hx => ⟨by have := h.good.sorted.lo x hx; omega, h.good.sorted.hi x hx⟩
/-- what a call leaves of a list -/
def Nt (B : Nat) (w w' : World) (p : Nat) (v : Value) (ys : List (Int × Int)) : Prop := ∃ v', Lst B w' p v' ys ∧ Buts (p :: v.ownBlock.toList) w w' ∧ ∀ g, v'.ownBlock = some g → v.ownBlock = some g ∨ w.heap.size ≤ g
theorem Lst.next {B : Nat} {w w' : World} {p : Nat} {v : Value} {ys : List (Int × Int)} (h : Lst B w p v ys) (hb : Below w.heap.size w w') : Nt B w w' p v ys := ⟨v, h.below hb, Buts.of hb, fun g hg => Or.inl hg⟩
theorem new_any (w : World) (B : Nat) (hB : B ≤ w.heap.size) : Calls Tryd.prog 18 #[] w fun e w' => e = .returned (.pointer (some ⟨w.heap.size, 0, none⟩)) ∧ Lst B w' w.heap.size (.slice none 0 0) [] ∧ Below w.heap.size w w' := by
  go_enter Tryd.func18, Tryd.ntmps18
  go_wp2
  go_ret
  exact ⟨rfl, ⟨⟨alloc_at w _, World.ownsRow_nil _ _ _ _, by simp [dl, srt], hB⟩, Good.nil⟩, alloc_below w _⟩
theorem there_yes {B : Nat} {w : World} {p : Nat} {v : Value} {ds : List (Int × Int)} (h : Ch B w p v ds) : Calls Tryd.prog 56 #[.pointer (some ⟨p, 0, none⟩)] w fun e w' => e = .returned (.bool true) ∧ w = w' := by
  have c0 := h.made
  clear h
  go_enter Tryd.func56, Tryd.ntmps56
  go_wp2
  go_ret
  exact ⟨rfl, rfl⟩
/-- who is looked for -/
theorem cfind_yes {B : Nat} {w : World} {p : Nat} {v : Value} {ys : List (Int × Int)} (h : Lst B w p v ys) {who : Int} (hh : has ys who = true) :
    Calls Tryd.prog 74 #[.pointer (some ⟨p, 1, none⟩), .int .i64 who] w fun e w' => (∃ k : Nat, k < ys.length ∧ ((srt ys).getD k (0, 0)).1 = who ∧ e = .returned (.tuple #[.int .i64 (k : Int), .int .i64 (leftV ys who), .bool true])) ∧ Below w.heap.size w w' := by
  refine (find_any h.ch h.bnd (by rw [srt_len]; exact h.len) who).mono ?_
  rintro e w' ⟨hx, hb⟩
  refine ⟨?_, hb⟩
  rcases hx with ⟨k, hk, hw, rfl⟩ | ⟨hn, _⟩
  · refine ⟨k, by rw [← srt_len]; exact hk, hw, ?_⟩
    rw [lf_succ hk, ← hw, leftV_at h.good.keys (srt_mem.1 (getD_mem hk))]
  · obtain ⟨y, hy, e⟩ := has_yes.1 hh
    obtain ⟨i, hi, e2⟩ := List.getElem_of_mem (srt_mem.2 hy)
    exact absurd (by rw [List.getD_eq_getElem?_getD, List.getElem?_eq_getElem hi, Option.getD_some, e2]; exact e) (hn i hi)
theorem cfind_no {B : Nat} {w : World} {p : Nat} {v : Value} {ys : List (Int × Int)} (h : Lst B w p v ys) {who : Int} (hh : has ys who = false) :
    Calls Tryd.prog 74 #[.pointer (some ⟨p, 1, none⟩), .int .i64 who] w fun e w' => e = .returned (.tuple #[.int .i64 0, .int .i64 0, .bool false]) ∧ Below w.heap.size w w' := by
  refine (find_any h.ch h.bnd (by rw [srt_len]; exact h.len) who).mono ?_
  rintro e w' ⟨hx, hb⟩
  refine ⟨?_, hb⟩
  rcases hx with ⟨k, hk, hw, rfl⟩ | ⟨hn, rfl⟩
  · exact absurd hw (has_no.1 hh _ (srt_mem.1 (getD_mem hk)))
  · rfl
set_option maxHeartbeats 1000000 in
theorem lfind_yes {B : Nat} {w : World} {p : Nat} {v : Value} {ys : List (Int × Int)} (h : Lst B w p v ys) {who : Int} (hh : has ys who = true) :
    Calls Tryd.prog 54 #[.pointer (some ⟨p, 0, none⟩), .int .i64 who] w fun e w' => ∃ k : Nat, k < ys.length ∧ ((srt ys).getD k (0, 0)).1 = who ∧ e = .returned (.tuple #[.int .i64 (k : Int), .int .i64 (leftV ys who), .int .i64 0]) ∧ Below w.heap.size w w' := by
  have HL : Hid (Lst B w p v ys) := h
  have HH : Hid (has ys who = true) := hh
  generalize hz : leftV ys who = z
  have HZ : Hid (leftV ys who = z) := hz
  clear h hh hz
  go_enter Tryd.func54, Tryd.ntmps54
  go_wp2_with (first
    | (go_at_call 56; refine (there_yes HL.out.ch).mono ?_; rintro e w' ⟨rfl, rfl⟩)
    | (go_at_call 74; refine (cfind_yes HL.out HH.out).mono ?_; rw [HZ.out]; rintro e w1 ⟨⟨k, hk, hw, rfl⟩, hb⟩; have HK : Hid (k < ys.length ∧ ((srt ys).getD k (0, 0)).1 = who) := ⟨hk, hw⟩; have HB : Hid (Below w.heap.size w w1) := hb; clear hk hw hb))
  refine bodyPost_ret (results_tmp3 rfl _ _ _) rfl ?_
  exact ⟨k, HK.out.1, HK.out.2, rfl, HB.out⟩
set_option maxHeartbeats 1000000 in
theorem lfind_no {B : Nat} {w : World} {p : Nat} {v : Value} {ys : List (Int × Int)} (h : Lst B w p v ys) {who : Int} (hh : has ys who = false) :
    Calls Tryd.prog 54 #[.pointer (some ⟨p, 0, none⟩), .int .i64 who] w fun e w' => e = .returned (.tuple #[.int .i64 0, .int .i64 0, .int .i64 1]) ∧ Below w.heap.size w w' := by
  have HL : Hid (Lst B w p v ys) := h
  have HH : Hid (has ys who = false) := hh
  clear h hh
  go_enter Tryd.func54, Tryd.ntmps54
  go_wp2_with (first
    | (go_at_call 56; refine (there_yes HL.out.ch).mono ?_; rintro e w' ⟨rfl, rfl⟩)
    | (go_at_call 74; refine (cfind_no HL.out HH.out).mono ?_; rintro e w1 ⟨rfl, hb⟩; have HB : Hid (Below w.heap.size w w1) := hb; clear hb))
  refine bodyPost_ret (results_tmp3 rfl _ _ _) rfl ?_
  exact ⟨rfl, HB.out⟩
set_option maxHeartbeats 1000000 in
theorem left_is {B : Nat} {w : World} {p : Nat} {v : Value} {ys : List (Int × Int)} (h : Lst B w p v ys) (who : Int) :
    Calls Tryd.prog 27 #[.pointer (some ⟨p, 0, none⟩), .int .i64 who] w fun e w' => e = .returned (.tuple #[.int .i64 (leftV ys who), .int .i64 (remE ys who)]) ∧ Below w.heap.size w w' := by
  have HL : Hid (Lst B w p v ys) := h
  by_cases hh : has ys who = true
  · have e : remE ys who = 0 := by simp [remE, hh]
    have HH : Hid (has ys who = true) := hh
    rw [e]
    generalize hz : leftV ys who = z
    have HZ : Hid (leftV ys who = z) := hz
    clear h hh hz e
    go_enter Tryd.func27, Tryd.ntmps27
    go_wp2_with (go_at_call 54; refine (lfind_yes HL.out HH.out).mono ?_; rw [HZ.out]; rintro e w1 ⟨k, hk, hw, rfl, hb⟩; have HB : Hid (Below w.heap.size w w1) := hb; clear hk hw hb)
    go_ret2
    exact ⟨rfl, HB.out⟩
  · have hh' : has ys who = false := by simpa using hh
    have e : remE ys who = 1 := by simp [remE, hh']
    have HH : Hid (has ys who = false) := hh'
    rw [e, leftV_no hh']
    clear h hh hh' e
    go_enter Tryd.func27, Tryd.ntmps27
    go_wp2_with (go_at_call 54; refine (lfind_no HL.out HH.out).mono ?_; rintro e w1 ⟨rfl, hb⟩; have HB : Hid (Below w.heap.size w w1) := hb; clear hb)
    go_ret2
    exact ⟨rfl, HB.out⟩
set_option maxHeartbeats 1000000 in
theorem remove_is {B : Nat} {w : World} {p : Nat} {v : Value} {ys : List (Int × Int)} (h : Lst B w p v ys) (who : Int) :
    Calls Tryd.prog 23 #[.pointer (some ⟨p, 0, none⟩), .int .i64 who] w fun e w' => e = .returned (.int .i64 (remE ys who)) ∧ Nt B w w' p v (gone ys who) := by
  have HL : Hid (Lst B w p v ys) := h
  by_cases hh : has ys who = true
  · have e : remE ys who = 0 := by simp [remE, hh]
    have HH : Hid (has ys who = true) := hh
    rw [e]
    clear h hh e
    have HR : Hid (∀ (k : Nat) (w1 : World), k < ys.length → ((srt ys).getD k (0, 0)).1 = who → Below w.heap.size w w1 → Calls Tryd.prog 55 #[.pointer (some ⟨p, 1, none⟩), .int .i64 (k : Int)] w1 fun e w' => e = .returned (.tuple #[]) ∧ Nt B w w' p v (gone ys who)) := fun k w1 hk hw hb => by
      have h1 := HL.out.below hb
      refine (removeAt_any h1.ch h1.bnd k (by rw [srt_len]; exact hk)).mono ?_
      rintro e w' ⟨rfl, v', hc, hbb, hv⟩
      rw [erase_gone HL.out.good.sorted.keys (by rw [srt_len]; exact hk) hw, ← srt_gone] at hc
      refine ⟨rfl, v', ⟨hc, HL.out.good.gone who⟩, (Buts.of hb).trans hbb, fun g hg => (hv g hg).imp id (fun h => by have := hb.size; omega)⟩
    go_enter Tryd.func23, Tryd.ntmps23
    go_wp2_with (first
      | (go_at_call 54; refine (lfind_yes HL.out HH.out).mono ?_; rintro e w1 ⟨k, hk, hw, rfl, hb⟩; have HK := HR.out k w1 hk hw hb; have HC : Hid (Calls Tryd.prog 55 #[.pointer (some ⟨p, 1, none⟩), .int .i64 (k : Int)] w1 fun e w' => e = .returned (.tuple #[]) ∧ Nt B w w' p v (gone ys who)) := HK; clear hk hw hb HK)
      | (go_at_call 55; refine HC.out.mono ?_; rintro e w2 ⟨rfl, hn⟩; have HN : Hid (Nt B w w2 p v (gone ys who)) := hn; clear hn))
    go_ret
    exact ⟨rfl, HN.out⟩
  · have hh' : has ys who = false := by simpa using hh
    have e : remE ys who = 1 := by simp [remE, hh']
    have HH : Hid (has ys who = false) := hh'
    rw [e, gone_no hh']
    clear h hh hh' e
    go_enter Tryd.func23, Tryd.ntmps23
    go_wp2_with (go_at_call 54; refine (lfind_no HL.out HH.out).mono ?_; rintro e w1 ⟨rfl, hb⟩; have HB : Hid (Below w.heap.size w w1) := hb; clear hb)
    go_ret
    exact ⟨rfl, HL.out.next HB.out⟩
set_option maxHeartbeats 1000000 in
theorem may_is {B : Nat} {w : World} {p : Nat} {v : Value} {ys : List (Int × Int)} (h : Lst B w p v ys) (who t : Int) :
    Calls Tryd.prog 52 #[.pointer (some ⟨p, 0, none⟩), .int .i64 who, .int .i64 t] w fun e w' => e = .returned (.int .i64 (putE ys who t)) ∧ Below w.heap.size w w' := by
  have HL : Hid (Lst B w p v ys) := h
  have HB0 : Hid (Below w.heap.size w w) := Below.refl _ _
  by_cases hb : badArg who t
  · have e : putE ys who t = 1 := by simp [putE, hb]
    rw [e]
    clear h e
    by_cases h1 : who < 0
    · clear hb
      go_enter Tryd.func52, Tryd.ntmps52
      go_wp2_with (go_at_call 56; refine (there_yes HL.out.ch).mono ?_; rintro e w' ⟨rfl, rfl⟩)
      go_ret
      exact ⟨rfl, HB0.out⟩
    · by_cases h2 : t < 1
      · clear hb
        go_enter Tryd.func52, Tryd.ntmps52
        go_wp2_with (go_at_call 56; refine (there_yes HL.out.ch).mono ?_; rintro e w' ⟨rfl, rfl⟩)
        go_ret
        exact ⟨rfl, HB0.out⟩
      · have h3 : 1073741824 < t := by unfold badArg at hb; omega
        clear hb
        go_enter Tryd.func52, Tryd.ntmps52
        go_wp2_with (go_at_call 56; refine (there_yes HL.out.ch).mono ?_; rintro e w' ⟨rfl, rfl⟩)
        go_ret
        exact ⟨rfl, HB0.out⟩
  · have a1 : ¬ who < 0 := fun h => hb (Or.inl h)
    have a2 : ¬ t < 1 := fun h => hb (Or.inr (Or.inl h))
    have a3 : ¬ 1073741824 < t := fun h => hb (Or.inr (Or.inr h))
    by_cases hh : has ys who = true
    · have e : putE ys who t = 7 := by simp [putE, hb, hh]
      have HH : Hid (has ys who = true) := hh
      rw [e]
      clear h e hb hh
      go_enter Tryd.func52, Tryd.ntmps52
      go_wp2_with (first
        | (go_at_call 56; refine (there_yes HL.out.ch).mono ?_; rintro e w' ⟨rfl, rfl⟩)
        | (go_at_call 74; refine (cfind_yes HL.out HH.out).mono ?_; rintro e w1 ⟨⟨k, hk, hw, rfl⟩, hb⟩; have HB : Hid (Below w.heap.size w w1) := hb; clear hk hw hb))
      go_ret
      exact ⟨rfl, HB.out⟩
    · have hh' : has ys who = false := by simpa using hh
      have e : putE ys who t = 0 := by simp [putE, hb, hh']
      have HH : Hid (has ys who = false) := hh'
      rw [e]
      clear h e hb hh hh'
      go_enter Tryd.func52, Tryd.ntmps52
      go_wp2_with (first
        | (go_at_call 56; refine (there_yes HL.out.ch).mono ?_; rintro e w' ⟨rfl, rfl⟩)
        | (go_at_call 74; refine (cfind_no HL.out HH.out).mono ?_; rintro e w1 ⟨rfl, hb⟩; have HB : Hid (Below w.heap.size w w1) := hb; clear hb))
      go_ret
      exact ⟨rfl, HB.out⟩
set_option maxHeartbeats 1000000 in
theorem put_is {B : Nat} {w : World} {p : Nat} {v : Value} {ys : List (Int × Int)} (h : Lst B w p v ys) (who t : Int) (hl : ys.length < 1000) (hB : B ≤ w.heap.size) :
    Calls Tryd.prog 20 #[.pointer (some ⟨p, 0, none⟩), .int .i64 who, .int .i64 t] w fun e w' => e = .returned (.int .i64 (putE ys who t)) ∧ Nt B w w' p v (putL ys who t) := by
  have HL : Hid (Lst B w p v ys) := h
  by_cases hz : putE ys who t = 0
  · have hb : ¬ badArg who t := fun hb => by simp [putE, hb] at hz
    have hh : has ys who = false := by
      cases hc : has ys who with
      | false => rfl
      | true => simp [putE, hb, hc] at hz
    have e2 : putL ys who t = ys ++ [(who, t)] := by simp [putL, hb, hh]
    have HM : Hid (Calls Tryd.prog 52 #[.pointer (some ⟨p, 0, none⟩), .int .i64 who, .int .i64 t] w fun e w' => e = .returned (.int .i64 0) ∧ Below w.heap.size w w') := by
      have := may_is h who t
      rw [hz] at this
      exact this
    have a1 : 0 ≤ who := by unfold badArg at hb; omega
    have a2 : 1 ≤ t := by unfold badArg at hb; omega
    have a3 : t ≤ 1073741824 := by unfold badArg at hb; omega
    have HG : Hid (Good (ys ++ [(who, t)])) := h.good.put a1 a2 a3 (has_no.1 hh)
    have HA : Hid (∀ w1, Below w.heap.size w w1 → Calls Tryd.prog 53 #[.pointer (some ⟨p, 1, none⟩), .int .i64 who, .int .i64 t] w1 fun e w' => e = .returned (.tuple #[]) ∧ Nt B w w' p v (ys ++ [(who, t)])) := fun w1 hbw => by
      have h1 := HL.out.below hbw
      refine (add_any h1.ch h1.bnd (by rw [srt_len]; exact hl) who t (by omega) a3 (by have := hbw.size; omega)).mono ?_
      rintro e w' ⟨rfl, v', hc, hbb, hv⟩
      rw [← srt_snoc] at hc
      exact ⟨rfl, v', ⟨hc, HG.out⟩, (Buts.of hbw).trans hbb, fun g hg => (hv g hg).imp id (fun h => by have := hbw.size; omega)⟩
    rw [hz, e2]
    clear h hb hh e2 hz a1 a2 a3
    go_enter Tryd.func20, Tryd.ntmps20
    go_wp2_with (first
      | (go_at_call 52; refine HM.out.mono ?_; rintro e w1 ⟨rfl, hb⟩; have HC := HA.out w1 hb; have HC' : Hid (Calls Tryd.prog 53 #[.pointer (some ⟨p, 1, none⟩), .int .i64 who, .int .i64 t] w1 fun e w' => e = .returned (.tuple #[]) ∧ Nt B w w' p v (ys ++ [(who, t)])) := HC; clear hb HC)
      | (go_at_call 53; refine HC'.out.mono ?_; rintro e w2 ⟨rfl, hn⟩; have HN : Hid (Nt B w w2 p v (ys ++ [(who, t)])) := hn; clear hn))
    go_ret
    exact ⟨rfl, HN.out⟩
  · have e2 : putL ys who t = ys := by
      unfold putE at hz
      unfold putL
      split
      · rfl
      · rename_i hb
        rw [if_neg hb] at hz
        split
        · rfl
        · rename_i hc
          rw [if_neg hc] at hz
          exact absurd rfl hz
    have HM : Hid (Calls Tryd.prog 52 #[.pointer (some ⟨p, 0, none⟩), .int .i64 who, .int .i64 t] w fun e w' => e = .returned (.int .i64 (putE ys who t)) ∧ Below w.heap.size w w') := may_is h who t
    rw [e2]
    generalize putE ys who t = z at *
    clear h e2
    go_enter Tryd.func20, Tryd.ntmps20
    go_wp2_with (go_at_call 52; refine HM.out.mono ?_; rintro e w1 ⟨rfl, hb⟩; have HB : Hid (Below w.heap.size w w1) := hb; clear hb)
    go_ret
    exact ⟨rfl, HL.out.next HB.out⟩
set_option maxHeartbeats 1000000 in
theorem tick_is {B : Nat} {w : World} {p : Nat} {v : Value} {ys : List (Int × Int)} (h : Lst B w p v ys) (hB : B ≤ w.heap.size) :
    Calls Tryd.prog 24 #[.pointer (some ⟨p, 0, none⟩)] w fun e w' => ∃ u, e = .returned u ∧ w'.ownsRow w.heap.size 3 1 u (woke ys).length (num (woke ys)) ∧ (u = .slice none 0 0 ↔ woke ys = []) ∧ Nt B w w' p v (rest ys) := by
  have HL : Hid (Lst B w p v ys) := h
  have HT : Hid (Calls Tryd.prog 57 #[.pointer (some ⟨p, 1, none⟩)] w fun e w' => ∃ us n uc, e = .returned (.slice us n uc) ∧ w'.ownsRow w.heap.size 3 1 (.slice us n uc) (woke ys).length (num (woke ys)) ∧ (Value.slice us n uc = .slice none 0 0 ↔ woke ys = []) ∧ Nt B w w' p v (rest ys)) := by
    refine (tick_any h.ch (srt_up ys) (fun x hx => h.good.sorted.lo x hx) (fun x hx => h.good.sorted.hi x hx) hB).mono ?_
    rintro e w' ⟨u, rfl, hr, hn, v', hc, hb, hv⟩
    rw [srt_woke] at hr hn
    rw [← srt_rest] at hc
    obtain ⟨us, uc, e, _⟩ := own_form hr
    subst e
    exact ⟨us, _, uc, rfl, hr, hn, v', ⟨hc, h.good.rest⟩, hb, hv⟩
  clear h
  go_enter Tryd.func24, Tryd.ntmps24
  go_wp2_with (first
    | (go_at_call 56; refine (there_yes HL.out.ch).mono ?_; rintro e w' ⟨rfl, rfl⟩)
    | (go_at_call 57; refine HT.out.mono ?_; rintro e w1 ⟨us, n, uc, rfl, hr, hn, hx⟩; have HR : Hid (w1.ownsRow w.heap.size 3 1 (.slice us n uc) (woke ys).length (num (woke ys)) ∧ (Value.slice us n uc = .slice none 0 0 ↔ woke ys = []) ∧ Nt B w w1 p v (rest ys)) := ⟨hr, hn, hx⟩; clear hr hn hx))
  go_ret
  exact ⟨_, rfl, HR.out⟩
end Go.Proofs.YtciafjmljmeimaaDoor
