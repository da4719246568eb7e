/- A link is added, and dropped; somebody is sought. -/
import Derived.Test.YtmdhlgdikchhlaaDoorAhead
namespace Go.Proofs.YtmdhlgdikchhlaaDoor
open Go Go.RowKit
set_option maxRecDepth 100000
set_option linter.unusedVariables false
theorem box_who (w : World) (v : Value) (t : TypeId) : (w.alloc (.cells #[v] t)).cell? ⟨w.heap.size, 0, none⟩ = some v := by rw [cell_of (alloc_at w _)]; rfl
theorem aheadOf_any {B : Nat} {w : World} {p : Nat} {bs : List Nat} {xs : List (Int × Int)} (h : Que B w p bs xs) (who : Int) :
    Calls Tryd.prog 26 #[.pointer (some ⟨p, 0, none⟩), .int .i64 who] w fun e w' => e = .returned (.pointer (some ⟨bat bs (wi xs who), 0, none⟩)) ∧ Below w.heap.size w w' := by
  have hb := alloc_below w (.cells #[.int .i64 who] 3)
  have HB : Hid (Below w.heap.size w (w.alloc (.cells #[.int .i64 who] 3))) := hb
  have HA : Hid (Calls Tryd.prog 52 #[.pointer (some ⟨bat bs 0, 0, none⟩), .func (.func 55) #[] #[.pointer (some ⟨w.heap.size, 0, none⟩)]] (w.alloc (.cells #[.int .i64 who] 3)) fun e w' => e = .returned (.pointer (some ⟨bat bs (wi xs who), 0, none⟩)) ∧ Below (w.alloc (.cells #[.int .i64 who] 3)).heap.size (w.alloc (.cells #[.int .i64 who] 3)) w') := aheadW_any (h.below hb) (box_who w _ _)
  have c0 := h.start
  have hlt := at_lt h.head
  clear h hb
  generalize bat bs 0 = b at *
  generalize bat bs (wi xs who) = b2 at *
  go_enter Tryd.func26, Tryd.ntmps26
  go_wp2_with (first | (go_at_call 52; refine HA.out.mono ?_; rintro e w2 ⟨rfl, hb2⟩; have HB2 : Hid (Below w.heap.size w w2) := HB.out.trans (hb2.mono HB.out.size); clear hb2))
  go_ret
  exact ⟨rfl, HB2.out⟩
theorem find_yes {B : Nat} {w : World} {p : Nat} {bs : List Nat} {xs : List (Int × Int)} (h : Que B w p bs xs) {who : Int} (hh : has xs who = true) :
    Calls Tryd.prog 20 #[.pointer (some ⟨p, 0, none⟩), .int .i64 who] w fun e w' => e = .returned (.tuple #[.pointer (some ⟨bat bs (wi xs who), 0, none⟩), .int .i64 0]) ∧ Below w.heap.size w w' := by
  have hlt := has_lt hh
  have HT := there_yes h
  have HA := aheadOf_any h who
  have d2 := (h.cells (i := wi xs who) (by omega)).2.2
  have hbl := (h.lt (i := wi xs who) (by omega)).1
  rw [nxt_some (by have := h.blen; omega)] at d2
  clear h hh hlt
  generalize bat bs (wi xs who + 1) = b2 at *
  generalize bat bs (wi xs who) = b1 at *
  go_enter Tryd.func20, Tryd.ntmps20
  go_wp2_with (first
    | (go_at_call 25; refine HT.mono ?_; rintro e wx ⟨rfl, rfl⟩)
    | (go_at_call 26; refine HA.mono ?_; rintro e w2 ⟨rfl, hb2⟩; have k2 := (hb2.cell (p := ⟨b1, 2, none⟩) hbl).trans d2; have HB2 : Hid (Below _ _ w2) := hb2; clear hb2))
  go_ret2
  exact ⟨rfl, HB2.out⟩
theorem find_no {B : Nat} {w : World} {p : Nat} {bs : List Nat} {xs : List (Int × Int)} (h : Que B w p bs xs) {who : Int} (hh : has xs who = false) :
    Calls Tryd.prog 20 #[.pointer (some ⟨p, 0, none⟩), .int .i64 who] w fun e w' => e = .returned (.tuple #[.pointer none, .int .i64 1]) ∧ Below w.heap.size w w' := by
  have hge := has_ge hh
  have HT := there_yes h
  have HA := aheadOf_any h who
  have d2 := (h.cells (i := wi xs who) (by omega)).2.2
  have hbl := (h.lt (i := wi xs who) (by omega)).1
  rw [nxt_none (by have := h.blen; omega)] at d2
  clear h hh hge
  generalize bat bs (wi xs who) = b1 at *
  go_enter Tryd.func20, Tryd.ntmps20
  go_wp2_with (first
    | (go_at_call 25; refine HT.mono ?_; rintro e wx ⟨rfl, rfl⟩)
    | (go_at_call 26; refine HA.mono ?_; rintro e w2 ⟨rfl, hb2⟩; have k2 := (hb2.cell (p := ⟨b1, 2, none⟩) hbl).trans d2; have HB2 : Hid (Below _ _ w2) := hb2; clear hb2))
  go_ret2
  exact ⟨rfl, HB2.out⟩
/-- the one behind a link is taken out -/
theorem lDrop_any {B : Nat} {w : World} {p : Nat} {bs : List Nat} {xs : List (Int × Int)} (h : Que B w p bs xs) {k : Nat} (hk : k < xs.length) :
    Calls Tryd.prog 21 #[.pointer (some ⟨bat bs k, 0, none⟩)] w fun e w' => e = .returned (.tuple #[]) ∧ (∃ bs', Que B w' p bs' (xs.eraseIdx k)) ∧ Ln B w w' := by
  have HD : Hid (Que B (w.setCell ⟨bat bs k, 2, none⟩ (.pointer (nxt bs (k + 1)))) p (bs.eraseIdx (k + 1)) (xs.eraseIdx k) ∧ Ln B w (w.setCell ⟨bat bs k, 2, none⟩ (.pointer (nxt bs (k + 1))))) := h.drop hk
  have d2 := (h.cells (i := k) (by omega)).2.2
  have f2 := h.free (i := k) (by omega) 2
  have e2 := (h.cells (i := k + 1) (by omega)).2.2
  rw [nxt_some (by have := h.blen; omega)] at d2
  clear h
  generalize bat bs (k + 1) = b2 at *
  generalize bat bs k = b1 at *
  generalize nxt bs (k + 1) = n at *
  go_enter Tryd.func21, Tryd.ntmps21
  go_wp2
  go_end0
  exact ⟨rfl, ⟨_, HD.out.1⟩, HD.out.2⟩
end Go.Proofs.YtmdhlgdikchhlaaDoor
