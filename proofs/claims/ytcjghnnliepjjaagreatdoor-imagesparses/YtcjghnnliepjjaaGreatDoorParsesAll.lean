/- 'ImagesParses', walked: the image of any lines, or the first line that is none, is the document's own answer; answers are memory of their own. -/
import Derived.Test.YtcjghnnliepjjaaGreatDoorApart
import Derived.Test.YtcjghnnliepjjaaGreatDoorBoxes
import Derived.Test.YtcjghnnliepjjaaGreatDoorRAll
import Derived.Test.YtcjghnnliepjjaaGreatDoorParseX
import Derived.Test.YtcjghnnliepjjaaGreatDoorSame
namespace Go.Proofs.YtcjghnnliepjjaaGreatDoor
open Go Go.RowKit
set_option maxRecDepth 100000
set_option linter.unusedVariables false
theorem two_new (w : World) {B : Nat} (hB : B ≤ w.heap.size) : Two B (w.alloc (.cells #[.int .i64 0, .slice none 0 0, .slice none 0 0, .slice none 0 0, .slice none 0 0, .slice none 0 0, .slice none 0 0, .slice none 0 0, .slice none 0 0] 42)) w.heap.size 0 (.slice none 0 0) [] (.slice none 0 0) [] := by
  refine ⟨⟨alloc_at w _, ⟨rfl, Or.inl ⟨rfl, rfl⟩⟩, fun H h => (by cases h), hB, by decide, by decide, fun j e h => (by simp at h)⟩, ⟨alloc_at w _, ⟨rfl, Or.inl ⟨rfl, rfl⟩⟩, fun H h => (by cases h), hB, by decide, by decide, fun j e h => (by simp at h)⟩⟩
theorem two_below {B : Nat} {w w' : World} {K : Nat} {v : Value} {cs : Array Value} {T : TypeId} {f : Nat × Nat} {t : TypeId} {s n : Nat} {xs : List Value} (hK : B ≤ K) (hh : w.heap[K]? = some (.cells cs T f)) (h : w.ownsRow B t s v n xs) (hu : Buts (K :: v.ownBlock.toList) w w') : Below B w w' :=
  hu.below (fun x hx => by
    rcases List.mem_cons.1 hx with rfl | hx
    · exact hK
    · exact (h.lt x (by simpa using hx)).1) (Nat.le_trans hK (Nat.le_of_lt (at_lt hh)))
theorem image_keep {B : Nat} {w : World} {K : Nat} {n : Int} {vB : Value} {EB : List Byt.Ent} {vI : Value} {EI : List Ins.Ent} (h : Two B w K n vB EB vI EI) (hE : EB.length + 1 ≤ 1000) (hE2 : EI.length + 1 ≤ 1000) (hn : n + 1 + 1 ≤ 1000) (size : Int) (sp cp : Option Addr) (d dc k kc : Nat) :
    Calls Tryz.prog 16 #[.pointer (some ⟨K, 0, none⟩), .agg #[.int .i64 size, .slice sp d dc, .slice cp k kc]] w fun e w' => e = .returned (.tuple #[]) ∧ ∃ v1 v2, Two B w' K (n + 1 + 1) v1 (EB ++ [⟨.slice sp d dc, d, .slice none 0 0, n + 1⟩]) v2 (EI ++ [⟨.slice cp k kc, k, .slice none 0 0, n + 1 + 1⟩]) ∧ Oth [42, 94, 108] w w' ∧ Below B w w' := by
  have hBw : B ≤ w.heap.size := Nat.le_trans h.b.base (Nat.le_of_lt (at_lt h.b.head))
  have hb0 : Below w.heap.size w (w.alloc (.cells #[.int .i64 size, .slice sp d dc, .slice cp k kc] 25)) := alloc_below _ _
  have X : Box (w.alloc (.cells #[.int .i64 size, .slice sp d dc, .slice cp k kc] 25)) w.heap.size (.int .i64 size) (.slice sp d dc) (.slice cp k kc) := Box.new w _ _ _ _
  have o0 : Oth ([] : List TypeId) w (w.alloc (.cells #[.int .i64 size, .slice sp d dc, .slice cp k kc] 25)) := Oth.below hb0
  have T0 : Hid _ := h.oth o0 (by decide) (by decide) (by decide)
  have HX : Hid ((w.alloc (.cells #[.int .i64 size, .slice sp d dc, .slice cp k kc] 25)).heap[w.heap.size]? = some (.cells #[.int .i64 size, .slice sp d dc, .slice cp k kc] 25 (0, 0))) := alloc_at w _
  have k1 := bytes_keep T0.out hE (by omega) sp d dc
  have k2 := fun wx vx EBx (T : Two B wx K (n + 1) vx EBx vI EI) => instrs_keep T hE2 (by omega) cp k kc
  clear h
  go_enter Tryz.func16, Tryz.ntmps16
  go_wp2_with (first
    | (go_at_call 17; refine k1.mono ?_; rintro e w1 ⟨rfl, v1, T1, o1, u1⟩; have x2 : w1.cell? ⟨w.heap.size, 2, none⟩ = some (.slice cp k kc) := (by rw [cell_of (o1.2 _ _ _ _ HX.out (by decide))]; rfl))
    | (go_at_call 39; refine (k2 _ _ _ T1).mono ?_; rintro e w2 ⟨rfl, v2, T2, o2, u2⟩))
  go_end0
  have b1 := two_below T0.out.b.base T0.out.b.head T0.out.b.row u1
  have b2 := two_below T1.i.base T1.i.head T1.i.row u2
  exact ⟨rfl, v1, v2, T2, ((o0.mono (by simp)).trans (o1.mono (by simp))).trans (o2.mono (by simp)), ((hb0.mono hBw).trans b1).trans b2⟩
/-- an image as it is answered: rows of one's own -/
structure Own (B : Nat) (w : World) (p : Option Addr) (pc : Nat) (r : Option Addr) (rc : Nat) (ds cs : List Int) (k : Nat) : Prop where
  d : w.ownsRow B 5 1 (.slice p ds.length pc) ds.length (byt ds)
  c : w.ownsRow B 64 4 (.slice r k rc) k (byt cs)
theorem Own.below {B : Nat} {w w' : World} {p r : Option Addr} {pc rc k : Nat} {ds cs : List Int} (h : Own B w p pc r rc ds cs k) (hb : Below w.heap.size w w') : Own B w' p pc r rc ds cs k := ⟨owns_below h.d hb, owns_below h.c hb⟩
theorem Own.oth {B : Nat} {w w' : World} {p r : Option Addr} {pc rc k : Nat} {ds cs : List Int} {l : List TypeId} (h : Own B w p pc r rc ds cs k) (ho : Oth l w w') (h1 : 5 ∉ l) (h2 : 64 ∉ l) : Own B w' p pc r rc ds cs k := ⟨ho.row h.d h1, ho.row h.c h2⟩
theorem Own.base {B B' : Nat} {w : World} {p r : Option Addr} {pc rc k : Nat} {ds cs : List Int} (h : Own B' w p pc r rc ds cs k) (hB : B ≤ B') : Own B w p pc r rc ds cs k := ⟨owns_base h.d hB, owns_base h.c hB⟩
theorem Own.img {B : Nat} {w : World} {p r : Option Addr} {pc rc k : Nat} {ds cs : List Int} (h : Own B w p pc r rc ds cs k) (hl : cs.length = 4 * k) (h1 : Bs ds) (h2 : Bs cs) : Img w p ds r cs k := ⟨src_own h.d, src_own h.c, hl, h1, h2⟩
theorem lists2 {B : Nat} {w : World} {v0 v1 : Value} {n0 n1 : Nat} {y0 y1 : List Value} {m0 m1 : Int} (h0 : w.ownsRow B 64 4 v0 n0 y0) (h1 : w.ownsRow B 64 4 v1 n1 y1) (s01 : ∀ g, v0.ownBlock = some g → v1.ownBlock ≠ some g) (k0 : 0 ≤ m0 ∧ m0 ≤ 1000) (k1 : 0 ≤ m1 ∧ m1 ≤ 1000) (l0 : n0 ≤ 1000000) (l1 : n1 ≤ 1000000) : Ins.Lists B w [⟨v0, n0, .slice none 0 0, m0⟩, ⟨v1, n1, .slice none 0 0, m1⟩] 0 := by
  have sw : ∀ {a b : Value}, (∀ g, a.ownBlock = some g → b.ownBlock ≠ some g) → ∀ g, b.ownBlock = some g → a.ownBlock ≠ some g := fun h g hb ha => h g ha hb
  refine ⟨fun j e he => ?_, fun j k e f hjk he hf => ?_, fun j e he => ?_, fun j e he => ?_⟩
  · rcases j with _ | _ | j
    · simp at he; subst he; exact ⟨y0, h0, fun h => by omega⟩
    · simp at he; subst he; exact ⟨y1, h1, fun h => by omega⟩
    · simp at he
  · rcases j with _ | _ | j
    · rcases k with _ | _ | k
      · exact absurd rfl hjk
      · simp at he hf; subst he hf; exact s01
      · simp at hf
    · rcases k with _ | _ | k
      · simp at he hf; subst he hf; exact sw s01
      · exact absurd rfl hjk
      · simp at hf
    · simp at he
  · rcases j with _ | _ | j
    · simp at he; subst he; exact k0
    · simp at he; subst he; exact k1
    · simp at he
  · rcases j with _ | _ | j
    · simp at he; subst he; exact l0
    · simp at he; subst he; exact l1
    · simp at he
/-- rows of unlike times lie apart -/
theorem rows_apart {w w' : World} {B t s n m : Nat} {T T' : TypeId} {v v' : Value} {xs ys : List Value} (h : w.ownsRow B T s v n xs) (h' : w'.ownsRow w.heap.size T' t v' m ys) : ∀ g, v.ownBlock = some g → v'.ownBlock ≠ some g := fun g hg e => by
  have a := (h.lt g hg).2
  have b := (h'.lt g e).1
  omega
/-- an image's box, whole -/
structure TBox (w : World) (g : Nat) (a b c : Value) : Prop where
  at' : w.heap[g]? = some (.cells #[a, b, c] 25 (0, 0))
theorem TBox.new (w : World) (a b c : Value) : TBox (w.alloc (.cells #[a, b, c] 25)) w.heap.size a b c := ⟨alloc_at w _⟩
theorem TBox.below {w w' : World} {g : Nat} {a b c : Value} (h : TBox w g a b c) (hb : Below w.heap.size w w') : TBox w' g a b c := ⟨(hb.block g (at_lt h.at')).trans h.at'⟩
theorem TBox.oth {w w' : World} {g : Nat} {a b c : Value} {l : List TypeId} (h : TBox w g a b c) (ho : Oth l w w') (hl : 25 ∉ l) : TBox w' g a b c := ⟨ho.2 _ _ _ _ h.at' hl⟩
theorem TBox.box {w : World} {g : Nat} {a b c : Value} (h : TBox w g a b c) : Box w g a b c := ⟨by rw [cell_of h.at']; rfl, by rw [cell_of h.at']; rfl, by rw [cell_of h.at']; rfl⟩
theorem lists2B {B : Nat} {w : World} {v0 v1 : Value} {n0 n1 : Nat} {y0 y1 : List Value} {m0 m1 : Int} (h0 : w.ownsRow B 5 1 v0 n0 y0) (h1 : w.ownsRow B 5 1 v1 n1 y1) (s01 : ∀ g, v0.ownBlock = some g → v1.ownBlock ≠ some g) (k0 : 0 ≤ m0 ∧ m0 ≤ 1000) (k1 : 0 ≤ m1 ∧ m1 ≤ 1000) (l0 : n0 ≤ 1000000) (l1 : n1 ≤ 1000000) : Byt.Lists B w [⟨v0, n0, .slice none 0 0, m0⟩, ⟨v1, n1, .slice none 0 0, m1⟩] 0 := by
  have sw : ∀ {a b : Value}, (∀ g, a.ownBlock = some g → b.ownBlock ≠ some g) → ∀ g, b.ownBlock = some g → a.ownBlock ≠ some g := fun h g hb ha => h g ha hb
  refine ⟨fun j e he => ?_, fun j k e f hjk he hf => ?_, fun j e he => ?_, fun j e he => ?_⟩
  · rcases j with _ | _ | j
    · simp at he; subst he; exact ⟨y0, h0, fun h => by omega⟩
    · simp at he; subst he; exact ⟨y1, h1, fun h => by omega⟩
    · simp at he
  · rcases j with _ | _ | j
    · rcases k with _ | _ | k
      · exact absurd rfl hjk
      · simp at he hf; subst he hf; exact s01
      · simp at hf
    · rcases k with _ | _ | k
      · simp at he hf; subst he hf; exact sw s01
      · exact absurd rfl hjk
      · simp at hf
    · simp at he
  · rcases j with _ | _ | j
    · simp at he; subst he; exact k0
    · simp at he; subst he; exact k1
    · simp at he
  · rcases j with _ | _ | j
    · simp at he; subst he; exact l0
    · simp at he; subst he; exact l1
    · simp at he
end Go.Proofs.YtcjghnnliepjjaaGreatDoor
namespace Go.Proofs.YtcjghnnliepjjaaGreatDoor
open Go Go.RowKit
set_option maxRecDepth 100000
set_option linter.unusedVariables false
set_option linter.unusedSimpArgs false
/-- the image that is answered, the number, the error -/
def resI : Nat ⊕ Im → Int × List Int × List Int × Nat
  | .inl _ => (0, [], [], 0)
  | .inr m => if okI m.n m.ds m.cs m.k = true then (m.n, m.ds, m.cs, m.k) else (0, [], [], 0)
def resN : Nat ⊕ Im → Int
  | .inl i => (i : Nat)
  | .inr _ => 0
def resE : Nat ⊕ Im → Int
  | .inl _ => 14
  | .inr m => if okI m.n m.ds m.cs m.k = true then 0 else 1
theorem pr_res {w w' : World} {e : Ending} {r : Nat ⊕ Im} (h : PR w w' e r) : ∃ p pc q qc, e = .returned (.tuple #[.agg #[.int .i64 (resI r).1, .slice p (resI r).2.1.length pc, .slice q (resI r).2.2.2 qc], .int .i64 (resN r), .int .i64 (resE r)]) ∧ Own w.heap.size w' p pc q qc (resI r).2.1 (resI r).2.2.1 (resI r).2.2.2 ∧ ((resI r).2.2.1.length = 4 * (resI r).2.2.2 ∧ Bs (resI r).2.1 ∧ Bs (resI r).2.2.1) ∧ Below w.heap.size w w' := by
  have nilB : Bs [] := fun z hz => (by cases hz)
  cases r with
  | inl i => exact ⟨none, 0, none, 0, h.1, ⟨World.ownsRow_nil _ _ _ _, World.ownsRow_nil _ _ _ _⟩, ⟨rfl, nilB, nilB⟩, h.2⟩
  | inr m =>
    obtain ⟨h1, h2⟩ := h
    by_cases ho : okI m.n m.ds m.cs m.k = true
    · rw [if_pos ho] at h1
      obtain ⟨vd, vc, he, od, oc, hl, b1, b2⟩ := h1
      obtain ⟨p, pc, rfl, _⟩ := owns_form od
      obtain ⟨q, qc, rfl, _⟩ := owns_form oc
      simp only [resI, resN, resE, if_pos ho]
      exact ⟨p, pc, q, qc, he, ⟨od, oc⟩, ⟨hl, b1, b2⟩, h2⟩
    · rw [if_neg ho] at h1
      simp only [resI, resN, resE, if_neg ho]
      exact ⟨none, 0, none, 0, h1, ⟨World.ownsRow_nil _ _ _ _, World.ownsRow_nil _ _ _ _⟩, ⟨rfl, nilB, nilB⟩, h2⟩
theorem res_bd (r : Nat ⊕ Im) : (resI r).2.1.length ≤ 5000 ∧ (resI r).2.2.2 ≤ 1100 := by
  cases r with
  | inl i => exact ⟨by simp [resI], by simp [resI]⟩
  | inr m =>
    simp only [resI]
    split
    · rename_i ho
      obtain ⟨⟨h0, h1, h2, h3⟩, _⟩ := (okI_iff _ _ _ _).1 ho
      show m.ds.length ≤ 5000 ∧ m.k ≤ 1100
      exact ⟨by omega, by omega⟩
    · exact ⟨by simp, by simp⟩
theorem parses_a {w : World} (s : ByteArray) (hg : 50000 < s.size) :
    Calls Tryz.prog 5 #[.string s] w fun e w' => e = .returned (.bool true) ∧ Below w.heap.size w w' := by
  have hi : (50000 : Int) < s.size := by omega
  go_enter Tryz.func5, Tryz.ntmps5
  go_wp2
  go_ret
  exact ⟨rfl, Below.refl _ _⟩
set_option maxHeartbeats 8000000 in
theorem parses_b {w : World} (hE : Env3 w) (s : ByteArray) (hg : ¬ 50000 < s.size) :
    Calls Tryz.prog 5 #[.string s] w fun e w' => e = .returned (.bool true) ∧ Below w.heap.size w w' := by
  have hi : ¬ ((50000 : Int) < s.size) := by omega
  have cG : ∀ W, Below w.heap.size w W → _ := fun W hW => (Parse_all (hE.on hW) s (by omega)).mono fun e w' h => pr_res h
  have cR : ∀ W, Below w.heap.size w W → _ := fun W hW => (rparse_any s (by omega) W).mono fun e w' h => pr_res h
  obtain ⟨l1, l2⟩ := res_bd (parseI s.size im0 0 s.data.toList)
  generalize parseI s.size im0 0 s.data.toList = ro at *
  generalize resN ro = Nr at *
  generalize resE ro = Er at *
  obtain ⟨im, him⟩ : ∃ im, resI ro = im := ⟨_, rfl⟩
  rw [him] at l1 l2 cG cR
  clear him
  obtain ⟨n, ds, cs, k⟩ := im
  simp only at l1 l2 cG cR
  have cS : ∀ (W : World) (p r p' r' : Option Addr) (pc rc pc' rc' : Nat), Img W p ds r cs k → Img W p' ds r' cs k → _ := fun W p r p' r' pc rc pc' rc' h h' => sameM_any (n := n) (n' := n) h h' (by omega) (by omega) (by omega) (by omega) pc pc' rc rc'
  rw [(sameB_iff n n ds ds cs cs).2 ⟨rfl, rfl, rfl⟩] at cS
  clear hE hg
  have q1 : (Nr == Nr) = true := by simp
  have q2 : (Er == Er) = true := by simp
  have M0 := True.intro
  have M1 := True.intro
  have M2 := True.intro
  go_enter Tryz.func5, Tryz.ntmps5
  go_wp2_with (first
    | (clear M0; go_at_call 24; refine (cG _ (Below.refl _ _)).mono ?_; rintro e w2 ⟨p, pc, r, rc, rfl, om, pf, hb2⟩; have PF : Hid (cs.length = 4 * k ∧ Bs ds ∧ Bs cs) := pf; have B2 : Hid (Below w.heap.size w w2) := hb2; have b2' : Below w2.heap.size w2 (w2.alloc (.cells #[.int .i64 n, .slice p ds.length pc, .slice r k rc] 25)) := alloc_below _ _; have X2 : Box (w2.alloc (.cells #[.int .i64 n, .slice p ds.length pc, .slice r k rc] 25)) w2.heap.size (.int .i64 n) (.slice p ds.length pc) (.slice r k rc) := Box.new w2 _ _ _ _; have H2 : Hid _ := TBox.new w2 (.int .i64 n) (.slice p ds.length pc) (.slice r k rc); clear pf)
    | (go_at_call 24; refine (cG _ (on1 B2.out b2')).mono ?_; rintro e w3 ⟨p2, pc2, r2, rc2, rfl, on, _, hb3⟩; have B3 : Hid (Below w.heap.size w w3) := on1 (on1 B2.out b2') hb3; have b3' : Below w3.heap.size w3 (w3.alloc (.cells #[.int .i64 n, .slice p2 ds.length pc2, .slice r2 k rc2] 25)) := alloc_below _ _; have X3 : Box (w3.alloc (.cells #[.int .i64 n, .slice p2 ds.length pc2, .slice r2 k rc2] 25)) w3.heap.size (.int .i64 n) (.slice p2 ds.length pc2) (.slice r2 k rc2) := Box.new w3 _ _ _ _; have H3 : Hid _ := TBox.new w3 (.int .i64 n) (.slice p2 ds.length pc2) (.slice r2 k rc2); have S12 : Hid _ := rows_apart (om.below b2').d on.d; have SI : Hid _ := rows_apart (om.below b2').c on.c)
    | (go_at_call 25; refine (cR _ (on1 B3.out b3')).mono ?_; rintro e w4 ⟨p3, pc3, r3, rc3, rfl, ow, _, hb4⟩; have B4 : Hid (Below w.heap.size w w4) := on1 (on1 B3.out b3') hb4; have b4' : Below w4.heap.size w4 (w4.alloc (.cells #[.int .i64 n, .slice p3 ds.length pc3, .slice r3 k rc3] 25)) := alloc_below _ _; have X4 : Box (w4.alloc (.cells #[.int .i64 n, .slice p3 ds.length pc3, .slice r3 k rc3] 25)) w4.heap.size (.int .i64 n) (.slice p3 ds.length pc3) (.slice r3 k rc3) := Box.new w4 _ _ _ _; have Y2 := ((X2.on hb3).on b3').on hb4; have Y2' := Y2.on b4'; have Y3 := (X3.on hb4).on b4'; have y20 := Y2'.c0; have y21 := Y2'.c1; have y22 := Y2'.c2; have y30 := Y3.c0; have y31 := Y3.c1; have y32 := Y3.c2; have u20 := Y2.c0; have u21 := Y2.c1; have u22 := Y2.c2; have v2l := cell_lt u20; have v3l := cell_lt (X3.on hb4).c0; have OM := ((((om.below b2').below hb3).below b3').below hb4).below b4'; have ON := ((on.below b3').below hb4).below b4'; have OW := ow.below b4'; have B5 : Hid (Below w.heap.size w (w4.alloc (.cells #[.int .i64 n, .slice p3 ds.length pc3, .slice r3 k rc3] 25))) := on1 B4.out b4')
    | (clear M1; go_at_call 22; refine (cS _ _ _ _ _ _ _ _ _ (OM.img PF.out.1 PF.out.2.1 PF.out.2.2) (OW.img PF.out.1 PF.out.2.1 PF.out.2.2)).mono ?_; rintro e w6 ⟨rfl, hb6⟩; have B6 : Hid (Below w.heap.size w w6) := on1 B5.out hb6; have Z3 := Y3.on hb6; have Z4 := X4.on hb6; have Z2 := Y2'.on hb6; have z30 := Z3.c0; have z31 := Z3.c1; have z32 := Z3.c2; have z40 := Z4.c0; have z41 := Z4.c1; have z42 := Z4.c2; have OM6 := OM.below hb6; have ON6 := ON.below hb6; have OW6 := OW.below hb6)
    | (go_at_call 22; refine (cS _ _ _ _ _ _ _ _ _ (ON6.img PF.out.1 PF.out.2.1 PF.out.2.2) (OW6.img PF.out.1 PF.out.2.1 PF.out.2.2)).mono ?_; rintro e w8 ⟨rfl, hb8⟩; have B8 : Hid (Below w.heap.size w w8) := on1 B6.out hb8; have OM8 := OM6.below hb8; have ON8 := ON6.below hb8; have TW0 : Hid _ := two_new w8 B8.out.size; have H8m : Hid _ := (((((H2.out.below hb3).below b3').below hb4).below b4').below hb6).below hb8; have H8n : Hid _ := (((H3.out.below hb4).below b4').below hb6).below hb8; have RM : Hid _ := OM8; have RN : Hid _ := ON8.base (on1 B2.out b2').size; have H9m : Hid _ := H8m.out.below (alloc_below w8 (.cells #[.int .i64 0, .slice none 0 0, .slice none 0 0, .slice none 0 0, .slice none 0 0, .slice none 0 0, .slice none 0 0, .slice none 0 0, .slice none 0 0] 42)); have H9n : Hid _ := H8n.out.below (alloc_below w8 (.cells #[.int .i64 0, .slice none 0 0, .slice none 0 0, .slice none 0 0, .slice none 0 0, .slice none 0 0, .slice none 0 0, .slice none 0 0, .slice none 0 0] 42)); have x80 := H8m.out.box.c0; have x81 := H8m.out.box.c1; have x82 := H8m.out.box.c2; have x8l := cell_lt x80)
    | (clear M2; go_at_call 16; refine (image_keep TW0.out (by decide) (by decide) (by decide) n _ _ _ _ _ _).mono ?_; rintro e w10 ⟨rfl, v2, v3, TW10, o10, b10⟩; have H10n : Hid _ := H9n.out.oth o10 (by decide); have x100 := H10n.out.box.c0; have x101 := H10n.out.box.c1; have x102 := H10n.out.box.c2)
    | (go_at_call 16; refine (image_keep TW10 (by simp) (by simp) (by decide) n _ _ _ _ _ _).mono ?_; rintro e w11 ⟨rfl, v4, v5, TW11, o11, b11⟩; have OO : Oth [42, 94, 108] w8 w11 := ((Oth.below (alloc_below w8 _)).trans o10).trans o11)
    | (go_at_call 18; refine (apart_yes TW11 (lists2B (OO.row RM.out.d (by decide)) (OO.row RN.out.d (by decide)) S12.out (by decide) (by decide) (by omega) (by omega)) (lists2 (OO.row RM.out.c (by decide)) (OO.row RN.out.c (by decide)) SI.out (by decide) (by decide) (by omega) (by omega))).mono ?_; rintro e w12 ⟨rfl, b12⟩))
  go_ret
  refine ⟨rfl, ?_⟩
  exact (((B8.out.trans ((alloc_below w8 _).mono B8.out.size)).trans b10).trans b11).trans b12
theorem parses_any {w : World} (hE : Env3 w) (s : ByteArray) : Calls Tryz.prog 5 #[.string s] w fun e w' => e = .returned (.bool true) ∧ Below w.heap.size w w' := by
  by_cases hg : 50000 < s.size
  · exact parses_a s hg
  · exact parses_b hE s hg
end Go.Proofs.YtcjghnnliepjjaaGreatDoor
