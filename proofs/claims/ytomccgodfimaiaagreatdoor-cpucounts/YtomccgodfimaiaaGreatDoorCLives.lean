/- The chapter's core. -/
import Derived.Test.YtomccgodfimaiaaGreatDoorCSame
namespace Go.Proofs.YtomccgodfimaiaaGreatDoor
open Go Go.RowKit
set_option maxRecDepth 100000
set_option linter.all false
def csL : List Int := [1, 1, 0, 65, 14, 1, 0, 2, 20, 1, 0, 0, 21, 18, 0, 0, 11, 2, 0, 1]
def l0 : Cr := newC 4 [] csL
def l1 : Cr := { rs := [0, 65, 0, 0, 0, 0, 0, 0], pc := 1, zs := [0, 0, 0, 0], cs := csL, con := [], asked := false }
def l2 : Cr := { rs := [0, 65, 0, 0, 0, 0, 0, 0], pc := 2, zs := [0, 0, 65, 0], cs := csL, con := [], asked := false }
def l3 : Cr := { rs := [0, 65, 0, 0, 0, 0, 0, 0], pc := 3, zs := [0, 0, 65, 0], cs := csL, con := [65], asked := false }
def l4 : Cr := { rs := [0, 65, 0, 0, 0, 0, 0, 0], pc := 4, zs := [0, 0, 65, 0], cs := csL, con := [65], asked := true }
def l5 : Cr := { rs := [8, 7, 0, 0, 0, 0, 0, 0], pc := 4, zs := [0, 0, 65, 0], cs := csL, con := [65], asked := false }
theorem sl0 : stepC 5 l0 = some (l1, none) := by kernel_rfl
theorem sl1 : stepC 5 l1 = some (l2, none) := by kernel_rfl
theorem sl2 : stepC 5 l2 = some (l3, none) := by kernel_rfl
theorem sl3 : stepC 5 l3 = some (l4, some (18, 0, 65, 0, 0)) := by kernel_rfl
theorem sl4 : ansC l4 8 7 = l5 := by kernel_rfl
theorem sl5 : stepC 5 l5 = none := by kernel_rfl
theorem okL : okI ((4 : Nat) : Int) [] csL 5 = true := by kernel_rfl
theorem regsL : regsV l5.rs = .agg #[.int .u32 8, .int .u32 7, .int .u32 0, .int .u32 0, .int .u32 0, .int .u32 0, .int .u32 0, .int .u32 0] := rfl
theorem strL : str l5.con = ⟨#[65]⟩ := by kernel_rfl
theorem csL_src (w : World) : Src (w.alloc (.cells #[.int .u8 1, .int .u8 1, .int .u8 0, .int .u8 65, .int .u8 14, .int .u8 1, .int .u8 0, .int .u8 2, .int .u8 20, .int .u8 1, .int .u8 0, .int .u8 0, .int .u8 21, .int .u8 18, .int .u8 0, .int .u8 0, .int .u8 11, .int .u8 2, .int .u8 0, .int .u8 1] 70)) (some ⟨w.heap.size, 0, none⟩) csL := fun _ =>
  ⟨w.heap.size, 0, rfl, fun i hi => by
    rw [cell_of (alloc_at w _)]
    have : i < 20 := hi
    match i, this with
    | 0, _ => rfl | 1, _ => rfl | 2, _ => rfl | 3, _ => rfl | 4, _ => rfl | 5, _ => rfl | 6, _ => rfl | 7, _ => rfl | 8, _ => rfl | 9, _ => rfl
    | 10, _ => rfl | 11, _ => rfl | 12, _ => rfl | 13, _ => rfl | 14, _ => rfl | 15, _ => rfl | 16, _ => rfl | 17, _ => rfl | 18, _ => rfl | 19, _ => rfl
    | n + 20, h => omega⟩
theorem csL_img (w : World) : Img (w.alloc (.cells #[.int .u8 1, .int .u8 1, .int .u8 0, .int .u8 65, .int .u8 14, .int .u8 1, .int .u8 0, .int .u8 2, .int .u8 20, .int .u8 1, .int .u8 0, .int .u8 0, .int .u8 21, .int .u8 18, .int .u8 0, .int .u8 0, .int .u8 11, .int .u8 2, .int .u8 0, .int .u8 1] 70)) none [] (some ⟨w.heap.size, 0, none⟩) csL 5 :=
  ⟨Src.nil _ _, csL_src w, rfl, Bs.nil, fun z hz => by unfold byte; simp [csL] at hz; omega⟩
theorem up_mono {B B' : Nat} {G : Kp} {cv : Value} (h : Up B G cv) (hb : B' ≤ B) : Up B' G cv := by
  obtain ⟨h1, h2, h3, h4, h5, h6⟩ := h
  exact ⟨by omega, by omega, by omega, by omega, fun b hb' => Nat.le_trans hb (h5 b hb'), fun b hb' => Nat.le_trans hb (h6 b hb')⟩
/-- the core, and what lies above B -/
structure Lv (B : Nat) (w0 w : World) (G : Kp) (cv : Value) (c : Cr) : Prop where
  cm : CM w G cv c
  up : Up B G cv
  bel : Below B w0 w
  big : B ≤ w0.heap.size
theorem Up.own {B : Nat} {G : Kp} {cv : Value} (h : Up B G cv) : ∀ x, x ∈ ownL G cv → B ≤ x := fun x hx => by
  obtain ⟨h1, h2, h3, h4, h5, h6⟩ := h
  simp only [ownL, List.mem_cons, Option.mem_toList] at hx
  rcases hx with rfl | rfl | hx
  · exact h1
  · exact h3
  · exact h6 _ hx
theorem Lv.next {B : Nat} {w0 w w' : World} {G : Kp} {cv cv' : Value} {c c' : Cr} (h : Lv B w0 w G cv c) (hc : CM w' G cv' c') (hb : Buts (ownL G cv) w w') (hn : ∀ b, cv'.ownBlock = some b → cv.ownBlock = some b ∨ w.heap.size ≤ b) : Lv B w0 w' G cv' c' := by
  have hs : B ≤ w.heap.size := Nat.le_trans h.big h.bel.size
  refine ⟨hc, ⟨h.up.1, h.up.2.1, h.up.2.2.1, h.up.2.2.2.1, h.up.2.2.2.2.1, fun b hb' => ?_⟩, h.bel.trans (hb.below h.up.own hs), h.big⟩
  rcases hn b hb' with e | e
  · exact h.up.2.2.2.2.2 b e
  · omega
theorem Lv.below {B : Nat} {w0 w w' : World} {G : Kp} {cv : Value} {c : Cr} (h : Lv B w0 w G cv c) (hb : Below w.heap.size w w') : Lv B w0 w' G cv c :=
  ⟨h.cm.below hb, h.up, h.bel.trans (hb.mono (Nat.le_trans h.big h.bel.size)), h.big⟩
theorem Lv.one {B : Nat} {w0 w : World} {G : Kp} {cv : Value} {c : Cr} (h : Lv B w0 w G cv c) (x : Obj) : Lv B w0 (w.alloc x) G cv c := h.below (alloc_below w x)
theorem Lv.put {B : Nat} {w0 w w' : World} {G : Kp} {cv : Value} {c c' : Cr} (h : Lv B w0 w G cv c) (hc : CM w' G cv c') (hb : Buts [G.p] w w') : Lv B w0 w' G cv c' := h.next hc (own_p hb) (fun b hb => Or.inl hb)
theorem row_src {w : World} {g : Nat} {zs : List Int} (h : Rn.Row w g zs) : Src w (some ⟨g, 0, none⟩) zs := fun _ => ⟨g, 0, rfl, fun i hi => by simpa using h.cell i hi⟩
theorem four_src (w : World) : Src (w.alloc (.cells #[.int .u8 0, .int .u8 0, .int .u8 65, .int .u8 0] 5)) (some ⟨w.heap.size, 0, none⟩) [0, 0, 65, 0] := fun _ =>
  ⟨w.heap.size, 0, rfl, fun i hi => by
    rw [cell_of (alloc_at w _)]
    have : i < 4 := hi
    match i, this with
    | 0, _ => rfl | 1, _ => rfl | 2, _ => rfl | 3, _ => rfl
    | n + 4, h => omega⟩
theorem sameL : decide (l5.zs = [0, 0, 65, 0]) = true := rfl
/-- the five cells of what was asked, above the core -/
def Bx (w : World) (G : Kp) (x : Nat) (v0 v1 v2 v3 v4 : Value) : Prop := w.heap[x]? = some (.cells #[v0, v1, v2, v3, v4] 41 (0, 0)) ∧ G.p < x
theorem Bx.below {w w' : World} {G : Kp} {x : Nat} {v0 v1 v2 v3 v4 : Value} (h : Bx w G x v0 v1 v2 v3 v4) (hb : Below w.heap.size w w') : Bx w' G x v0 v1 v2 v3 v4 := ⟨(hb.block _ (at_lt h.1)).trans h.1, h.2⟩
theorem Bx.put {w w' : World} {G : Kp} {x : Nat} {v0 v1 v2 v3 v4 : Value} (h : Bx w G x v0 v1 v2 v3 v4) (hb : Buts [G.p] w w') : Bx w' G x v0 v1 v2 v3 v4 := ⟨(hb.block _ (at_lt h.1) (by have := h.2; simp; omega)).trans h.1, h.2⟩
set_option maxHeartbeats 8000000 in
theorem lives_any {w : World} (hE : Env w) : Calls Tryz.prog 8 #[] w fun e w' => e = .returned (.bool true) ∧ Below w.heap.size w w' := by
  have b1 := alloc_below w (.cells #[.int .u8 1, .int .u8 1, .int .u8 0, .int .u8 65, .int .u8 14, .int .u8 1, .int .u8 0, .int .u8 2, .int .u8 20, .int .u8 1, .int .u8 0, .int .u8 0, .int .u8 21, .int .u8 18, .int .u8 0, .int .u8 0, .int .u8 11, .int .u8 2, .int .u8 0, .int .u8 1] 70)
  have HE : Hid (Env _) := hE.on b1
  have HI : Hid (Img _ none [] (some ⟨w.heap.size, 0, none⟩) csL 5) := csL_img w
  have HB1 : Hid (Below w.heap.size w _) := b1
  clear hE b1
  go_enter Tryz.func8, Tryz.ntmps8
  go_wp2_with (first
    | (go_at_call 10; refine (New_yes (n := 4) HE.out HI.out okL 0 5).mono ?_; rintro e w2 ⟨G, rfl, hk, hc, hb, hu⟩; have K2 : Hid (Lv w.heap.size w w2 G (.slice none 0 0) l0) := ⟨hc, up_mono hu HB1.out.size, HB1.out.trans (hb.mono HB1.out.size), Nat.le_refl _⟩; have HK : Hid (G.k = 5) := hk; clear hk hc hb hu)
    | (go_at_call 13; refine (step_none (K9.out.one _).cm rfl (by decide) (by rw [HK.out]; exact sl5)).mono ?_; rintro e w10 ⟨he, hb⟩; unfold zAsk at he; subst he; have HX10 : Hid (Bx w10 G w6.heap.size (.int .u8 18) (.int .u32 0) (.int .u32 65) (.int .u32 0) (.int .i64 0)) := HX9.out.below ((alloc_below w9 _).trans (hb.mono (alloc_below w9 _).size)); have HR10 : Hid (w10.heap[w9.heap.size]? = some (.cells #[.int .u32 8, .int .u32 7, .int .u32 0, .int .u32 0, .int .u32 0, .int .u32 0, .int .u32 0, .int .u32 0] 46 (0, 0))) := (hb.block _ (at_lt (alloc_at w9 _))).trans (alloc_at w9 _); have K10 : Hid (Lv w.heap.size w w10 G cv5 l5) := (K9.out.one _).below hb; have HC10 : Hid (Lv w.heap.size w (w10.alloc (.cells #[.int .u8 0, .int .u32 0, .int .u32 0, .int .u32 0, .int .i64 0] 41)) G cv5 l5) := K10.out.one _; have hx11 := (alloc_below w10 (.cells #[.int .u8 0, .int .u32 0, .int .u32 0, .int .u32 0, .int .i64 0] 41)).block _ (at_lt HX10.out.1) |>.trans HX10.out.1; have hr11 := (alloc_below w10 (.cells #[.int .u8 0, .int .u32 0, .int .u32 0, .int .u32 0, .int .i64 0] 41)).block _ (at_lt HR10.out) |>.trans HR10.out; have z0 := cell_of (i := 0) hx11; have z1 := cell_of (i := 1) hx11; have z2 := cell_of (i := 2) hx11; have z3 := cell_of (i := 3) hx11; have z4 := cell_of (i := 4) hx11; have r0 := cell_of (i := 0) hr11; have r1 := cell_of (i := 1) hr11; simp at z0 z1 z2 z3 z4 r0 r1; clear hx11 hr11 hb K9 HX9 K10 HX10 HR10)
    | (go_at_call 13; refine (Step_asked (K6.out.one _).cm rfl).mono ?_; rintro e w7 ⟨he, hb⟩; unfold zAsk at he; subst he; have HX7 : Hid (Bx w7 G w6.heap.size (.int .u8 18) (.int .u32 0) (.int .u32 65) (.int .u32 0) (.int .i64 0)) := Bx.below ⟨alloc_at w6 _, K6.out.cm.plt⟩ hb; have K7 : Hid (Lv w.heap.size w w7 G cv5 l4) := (K6.out.one _).below hb; clear hb K6)
    | (go_at_call 17; refine (Answer_yes (K7.out.one _).cm rfl 8 7 ⟨by decide, by decide⟩).mono ?_; rintro e w8 ⟨rfl, h1, h2⟩; have K8 : Hid (Lv w.heap.size w w8 G cv5 l5) := (K7.out.one _).put (sl4 ▸ h1) h2; have HX8 : Hid (Bx w8 G w6.heap.size (.int .u8 18) (.int .u32 0) (.int .u32 65) (.int .u32 0) (.int .i64 0)) := (HX7.out.below (alloc_below w7 _)).put h2; clear h1 h2 K7 HX7)
    | (go_at_call 19; refine (Regs_any K8.out.cm).mono ?_; rintro e w9 ⟨he, hb⟩; rw [regsL] at he; subst he; have K9 : Hid (Lv w.heap.size w w9 G cv5 l5) := K8.out.below hb; have HX9 : Hid (Bx w9 G w6.heap.size (.int .u8 18) (.int .u32 0) (.int .u32 65) (.int .u32 0) (.int .i64 0)) := HX8.out.below hb; clear hb K8 HX8)
    | (go_at_call 13; refine (step_asks K5.out.cm rfl (by decide) (by rw [HK.out]; exact sl3)).mono ?_; rintro e w6 ⟨rfl, cv5, h3, h4, h5⟩; have K6 : Hid (Lv w.heap.size w w6 G cv5 l4) := K5.out.next h3 h4 h5; clear h3 h4 h5 K5)
    | (go_at_call 13; refine (step_some K4.out.cm rfl (by decide) (by rw [HK.out]; exact sl2)).mono ?_; rintro e w5 ⟨rfl, cv4, h3, h4, h5⟩; have K5 : Hid (Lv w.heap.size w w5 G cv4 l3) := K4.out.next h3 h4 h5; clear h3 h4 h5 K4)
    | (go_at_call 13; refine (step_some K3.out.cm rfl (by decide) (by rw [HK.out]; exact sl1)).mono ?_; rintro e w4 ⟨rfl, cv3, h3, h4, h5⟩; have K4 : Hid (Lv w.heap.size w w4 G cv3 l2) := K3.out.next h3 h4 h5; clear h3 h4 h5 K3)
    | (go_at_call 13; refine (step_some K2.out.cm rfl (by decide) (by rw [HK.out]; exact sl0)).mono ?_; rintro e w3 ⟨rfl, cv2, h3, h4, h5⟩; have K3 : Hid (Lv w.heap.size w w3 G cv2 l1) := K2.out.next h3 h4 h5; clear h3 h4 h5 K2)
    | (go_at_call 15; refine (Bytes_core HC10.out.cm).mono ?_; rintro e w12 ⟨rfl, hr, hb⟩; have K12 : Hid (Lv w.heap.size w w12 G cv5 l5) := HC10.out.below hb; have HS12 : Hid (Src w12 (some ⟨w10.heap.size + 1, 0, none⟩) l5.zs) := row_src (by simpa using hr); clear hr hb HC10 z0 z1 z2 z3 z4 r0 r1)
    | (go_at_call 24; refine (same_any (xs := l5.zs) (ys := [0, 0, 65, 0]) (HS12.out.below (alloc_below w12 _)) (four_src w12) (show (4 : Nat) ≤ 1000000 by omega) (show (4 : Nat) ≤ 1000000 by omega) 4 4).mono ?_; rintro e w13 ⟨he, hb⟩; rw [sameL] at he; subst he; have K13 : Hid (Lv w.heap.size w w13 G cv5 l5) := (K12.out.one _).below hb; clear hb K12 HS12)
    | (go_at_call 22; refine (Console_any K13.out.cm).mono ?_; rintro e w14 ⟨he, rfl⟩; rw [strL] at he; subst he)
    | (go_at_call 17; refine (Answer_nil _ 0 0).mono ?_; rintro e w15 ⟨rfl, rfl⟩)
    | fail)
  go_ret
  exact ⟨rfl, K13.out.bel⟩
end Go.Proofs.YtomccgodfimaiaaGreatDoor
