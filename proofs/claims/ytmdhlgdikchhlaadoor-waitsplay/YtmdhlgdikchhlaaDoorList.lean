/- List: all, the first one first, in new memory. -/
import Derived.Test.YtmdhlgdikchhlaaDoorTop
namespace Go.Proofs.YtmdhlgdikchhlaaDoor
open Go Go.RowKit
set_option maxRecDepth 100000
set_option linter.unusedVariables false
set_option linter.unusedSimpArgs false
theorem keys_take (xs : List (Int × Int)) {i : Nat} (h : i < xs.length) : keys (xs.take (i + 1)) = keys (xs.take i) ++ [(xs.getD i (0, 0)).1] := by
  rw [List.take_succ_eq_append_getElem h, getD_at h]
  unfold keys
  rw [List.map_append]
  rfl
theorem keys_take_len (xs : List (Int × Int)) {i : Nat} (h : i ≤ xs.length) : (keys (xs.take i)).length = i := by simp [keys]; omega
set_option maxHeartbeats 1000000 in
theorem qlist_own {B : Nat} {w : World} {p : Nat} {xs : List (Int × Int)} (h : Qu B w p xs) :
    Calls Tryd.prog 13 #[.pointer (some ⟨p, 0, none⟩)] w fun e w' => ∃ v, e = .returned v ∧ w'.ownsRow w.heap.size 3 1 v xs.length ((keys xs).map (Value.int .i64)) ∧ Below w.heap.size w w' := by
  obtain ⟨i0, hi, hz0, hz1, hz2⟩ := info_parts' infoW
  obtain ⟨bs, h⟩ := h
  have HQ : Hid (Que B w p bs xs) := h
  have HT := there_yes h
  have hlen := h.len
  have c0 := h.start
  have d2 := (h.cells (i := 0) (by omega)).2.2
  have HK : Hid (keys (xs.take xs.length) = keys xs) := by show _ = _; rw [List.take_length]
  have HS : Hid (∀ i, i < xs.length → keys (xs.take (i + 1)) = keys (xs.take i) ++ [(xs.getD i (0, 0)).1]) := fun i hi => keys_take xs hi
  have hbl := h.blen
  clear h
  obtain ⟨n, hn⟩ : ∃ n, xs.length = n := ⟨_, rfl⟩
  have HN : Hid (xs.length = n) := hn
  rw [hn] at hlen HK HS hbl
  rw [hn]
  clear hn
  generalize bat bs 0 = b0 at *
  go_enter Tryd.func13, Tryd.ntmps13
  go_wp2_with (first | (go_at_call 25; refine HT.mono ?_; rintro e wx ⟨rfl, rfl⟩))
  go_loopg [3, 4] n (fun gk s3 s4 wx => ∃ i : Nat, i + gk = n ∧ s4 = .pointer (nxt bs i) ∧ Hid (wx.ownsRow w.heap.size 3 1 s3 i ((keys (xs.take i)).map (Value.int .i64))) ∧ Hid (Below w.heap.size w wx))
  case atStart => exact ⟨0, by omega, rfl, World.ownsRow_nil _ _ _ _, Below.refl _ _⟩
  case round =>
    clear c0 d2 HT
    obtain ⟨i, hig, hs4, HO, HB⟩ := hrel
    cases gk with
    | zero =>
      obtain rfl : i = n := by omega
      rw [nxt_none (by omega)] at hs4
      subst hs4
      rw [HK.out] at HO
      go_wp2
      go_ret
      exact ⟨_, rfl, HO.out, HB.out⟩
    | succ g' =>
      rw [nxt_some (by omega)] at hs4
      subst hs4
      have hx : i < n := by omega
      have hq := HQ.out.below HB.out
      obtain ⟨e0, _, _⟩ := hq.cells (i := i + 1) (by have := HN.out; omega)
      obtain ⟨_, _, e2⟩ := HQ.out.cells (i := i + 1) (by have := HN.out; omega)
      rw [yat_succ] at e0
      have HE2 : Hid (w.cell? ⟨bat bs (i + 1), 2, none⟩ = some (.pointer (nxt bs (i + 1)))) := e2
      have HS1 : Hid (keys (xs.take (i + 1)) = keys (xs.take i) ++ [(xs.getD i (0, 0)).1]) := HS.out i hx
      have hlt := (HQ.out.lt (i := i + 1) (by have := HN.out; omega)).1
      clear hq e2
      generalize (xs.getD i (0, 0)).1 = y at *
      generalize keys (xs.take i) = ks at *
      generalize bat bs (i + 1) = b2 at *
      go_wp2_with (first
        | (at_builtin; refine wpList_append_own _ rfl _ _ 43 rfl w.heap.size 3 i0 (.int .i64 0) 1 8 Tryd.underlying43 hi hz0 hz1 hz2 rfl (by decide) _ _ _ rfl (HO.out.alloc _) ⟨wr.heap.size, 0, none⟩ 1 1 [.int .i64 y] rfl rfl (cell1 wr _ _) (by simp [Value.oneCell']) (by simp only [maxLen]; omega) (by omega) (by have := HB.out.size; rw [alloc_size]; omega) ?_; intro v' w1 hown' hgrow _; have HG : Hid ((wr.alloc (.cells #[.int .i64 y] 3)).grownBy w1 u3.ownBlock) := hgrow; have HO3 : Hid (w1.ownsRow w.heap.size 3 1 v' (i + 1) (ks.map (Value.int .i64) ++ [.int .i64 y])) := hown'; have HB3 : Hid (Below w.heap.size w w1) := (HB.out.trans (((alloc_below wr _).mono HB.out.size).trans ((Buts.grown HG.out).below (fun x hx => (HO.out.lt x (by simpa using hx)).1) (by have := HB.out.size; rw [alloc_size]; omega)))); have k2 : w1.cell? ⟨b2, 2, none⟩ = some (.pointer (nxt bs (i + 1))) := (HB3.out.cell (p := ⟨b2, 2, none⟩) hlt).trans HE2.out; clear hown' hgrow))
      go_roundg g'
      case measure => omega
      case rel =>
        refine ⟨i + 1, by omega, rfl, ?_, HB3⟩
        rw [HS1.out, List.map_append]
        exact HO3
/-- List, told as a slice -/
theorem qlist_any {B : Nat} {w : World} {p : Nat} {xs : List (Int × Int)} (h : Qu B w p xs) {n : Nat} (hn : xs.length = n) {zs : List Int} (hz : keys xs = zs) :
    Calls Tryd.prog 13 #[.pointer (some ⟨p, 0, none⟩)] w fun e w' => ∃ sp cap, e = .returned (.slice sp n cap) ∧ w'.ownsRow w.heap.size 3 1 (.slice sp n cap) n (zs.map (Value.int .i64)) ∧ Src w' sp zs ∧ Below w.heap.size w w' := by
  subst hn hz
  refine (qlist_own h).mono ?_
  rintro e w' ⟨v, rfl, ho, hb⟩
  have ho' := ho
  rw [← keys_len] at ho'
  obtain ⟨sp, cap, rfl, hs⟩ := Src.own ho'
  rw [keys_len] at ho' ⊢
  exact ⟨sp, cap, rfl, ho', hs, hb⟩
theorem qlist_nil {w : World} :
    Calls Tryd.prog 13 #[.pointer none] w fun e w' => e = .returned (.slice none 0 0) ∧ w = w' := by
  go_enter Tryd.func13, Tryd.ntmps13
  go_wp2_with (first | (go_at_call 25; refine there_nil.mono ?_; rintro e wx ⟨rfl, rfl⟩))
  go_ret
  exact ⟨rfl, rfl⟩
end Go.Proofs.YtmdhlgdikchhlaaDoor
