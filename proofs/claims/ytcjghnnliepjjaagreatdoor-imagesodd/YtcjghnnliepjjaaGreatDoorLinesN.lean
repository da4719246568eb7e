/- 'ImagesLines' where it asks no more than that the package lives: great images, and ones that may not be. -/
import Derived.Test.YtcjghnnliepjjaaGreatDoorLinesW
namespace Go.Proofs.YtcjghnnliepjjaaGreatDoor
open Go Go.RowKit
set_option maxRecDepth 100000
set_option linter.unusedVariables false
set_option maxHeartbeats 4000000 in
theorem ilines_no {w : World} (hE : Env3 w) {n : Int} {sp cp : Option Addr} {ds cs : List Int} {dc k kc : Nat} (h : ImgA w sp ds dc cp cs k kc) (hno : 300 < ds.length ∨ 100 < k ∨ okI n ds cs k = false) (many : Int) (last : Bool) :
    Calls Tryz.prog 6 #[.agg #[.int .i64 n, .slice sp ds.length dc, .slice cp k kc], .int .u8 many, .bool last] w fun e w' => e = .returned (.bool true) ∧ Below w.heap.size w w' := by
  have cA : ∀ W, Below w.heap.size w W → _ := fun W hW => alive_any W (hE.on hW)
  have cK : ∀ W, Below w.heap.size w W → _ := fun W hW => Check_img (size := n) (hE.on hW).two.env (h.i.on hW) dc kc
  have hb0 : Below w.heap.size w (w.alloc (.cells #[.int .i64 n, .slice sp ds.length dc, .slice cp k kc] 25)) := alloc_below _ _
  have X : Box (w.alloc (.cells #[.int .i64 n, .slice sp ds.length dc, .slice cp k kc] 25)) w.heap.size (.int .i64 n) (.slice sp ds.length dc) (.slice cp k kc) := Box.new w _ _ _ _
  have hs0 := alloc_size w (.cells #[.int .i64 n, .slice sp ds.length dc, .slice cp k kc] 25)
  clear hE h
  by_cases h1 : 300 < ds.length
  · have h1I : (300 : Int) < ds.length := by omega
    clear cK hno
    generalize ds.length = dl at *
    have M0 := True.intro
    go_enter Tryz.func6, Tryz.ntmps6
    go_wp2_with (first
      | (clear M0; go_at_call 26; refine (cA _ hb0).mono ?_; rintro e w1 ⟨rfl, hb1⟩; have B1 : Hid (Below w.heap.size w w1) := on1 hb0 hb1; have X1 := X.on hb1; have x1 := X1.c1; have x2 := X1.c2)
      | (go_at_call 26; refine (cA _ B1.out).mono ?_; rintro e w2 ⟨rfl, hb2⟩; have B2 : Hid (Below w.heap.size w w2) := on1 B1.out hb2))
    go_ret
    exact ⟨rfl, B2.out⟩
  · have h1I : ¬ ((300 : Int) < ds.length) := by omega
    by_cases h2 : 100 < k
    · have h2I : (100 : Int) < k := by omega
      clear cK hno
      generalize ds.length = dl at *
      have M0 := True.intro
      go_enter Tryz.func6, Tryz.ntmps6
      go_wp2_with (first
        | (clear M0; go_at_call 26; refine (cA _ hb0).mono ?_; rintro e w1 ⟨rfl, hb1⟩; have B1 : Hid (Below w.heap.size w w1) := on1 hb0 hb1; have X1 := X.on hb1; have x1 := X1.c1; have x2 := X1.c2)
        | (go_at_call 26; refine (cA _ B1.out).mono ?_; rintro e w2 ⟨rfl, hb2⟩; have B2 : Hid (Below w.heap.size w w2) := on1 B1.out hb2))
      go_ret
      exact ⟨rfl, B2.out⟩
    · have h2I : ¬ ((100 : Int) < k) := by omega
      have h3 : okI n ds cs k = false := by rcases hno with a | a | a <;> first | omega | exact a
      rw [h3] at cK
      clear hno
      have M0 := True.intro
      go_enter Tryz.func6, Tryz.ntmps6
      go_wp2_with (first
        | (clear M0; go_at_call 26; refine (cA _ hb0).mono ?_; rintro e w1 ⟨rfl, hb1⟩; have B1 : Hid (Below w.heap.size w w1) := on1 hb0 hb1; have X1 := X.on hb1; have x0 := X1.c0; have x1 := X1.c1; have x2 := X1.c2)
        | (go_at_call 12; refine (cK _ B1.out).mono ?_; rintro e w3 ⟨rfl, hb3⟩; have B3 : Hid (Below w.heap.size w w3) := on1 B1.out hb3)
        | (go_at_call 26; refine (cA _ B3.out).mono ?_; rintro e w2 ⟨rfl, hb2⟩; have B2 : Hid (Below w.heap.size w w2) := on1 B3.out hb2))
      go_ret
      exact ⟨rfl, B2.out⟩
end Go.Proofs.YtcjghnnliepjjaaGreatDoor
