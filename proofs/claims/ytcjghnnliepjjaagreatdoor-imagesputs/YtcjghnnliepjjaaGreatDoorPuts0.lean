/- What the walks of ImagesPuts, ImagesGets and ImagesParses lean on: a new book, an image put into it, rows of twins, what Put answers in one word. -/
import Derived.Test.YtcjghnnliepjjaaGreatDoorApart
import Derived.Test.YtcjghnnliepjjaaGreatDoorSeen
import Derived.Test.YtcjghnnliepjjaaGreatDoorBoxes
import Derived.Test.YtcjghnnliepjjaaGreatDoorRefP
namespace Go.Proofs.YtcjghnnliepjjaaGreatDoor
open Go Go.RowKit
set_option maxRecDepth 100000
set_option linter.unusedVariables false
theorem two_new (w : World) {B : Nat} (hB : B ≤ w.heap.size) : Two B (w.alloc (.cells #[.int .i64 0, .slice none 0 0, .slice none 0 0, .slice none 0 0, .slice none 0 0, .slice none 0 0, .slice none 0 0, .slice none 0 0, .slice none 0 0] 42)) w.heap.size 0 (.slice none 0 0) [] (.slice none 0 0) [] := by
  refine ⟨⟨alloc_at w _, ⟨rfl, Or.inl ⟨rfl, rfl⟩⟩, fun H h => (by cases h), hB, by decide, by decide, fun j e h => (by simp at h)⟩, ⟨alloc_at w _, ⟨rfl, Or.inl ⟨rfl, rfl⟩⟩, fun H h => (by cases h), hB, by decide, by decide, fun j e h => (by simp at h)⟩⟩
theorem two_below {B : Nat} {w w' : World} {K : Nat} {v : Value} {cs : Array Value} {T : TypeId} {f : Nat × Nat} {t : TypeId} {s n : Nat} {xs : List Value} (hK : B ≤ K) (hh : w.heap[K]? = some (.cells cs T f)) (h : w.ownsRow B t s v n xs) (hu : Buts (K :: v.ownBlock.toList) w w') : Below B w w' :=
  hu.below (fun x hx => by
    rcases List.mem_cons.1 hx with rfl | hx
    · exact hK
    · exact (h.lt x (by simpa using hx)).1) (Nat.le_trans hK (Nat.le_of_lt (at_lt hh)))
theorem image_keep {B : Nat} {w : World} {K : Nat} {n : Int} {vB : Value} {EB : List Byt.Ent} {vI : Value} {EI : List Ins.Ent} (h : Two B w K n vB EB vI EI) (hE : EB.length + 1 ≤ 1000) (hE2 : EI.length + 1 ≤ 1000) (hn : n + 1 + 1 ≤ 1000) (size : Int) (sp cp : Option Addr) (d dc k kc : Nat) :
    Calls Tryz.prog 16 #[.pointer (some ⟨K, 0, none⟩), .agg #[.int .i64 size, .slice sp d dc, .slice cp k kc]] w fun e w' => e = .returned (.tuple #[]) ∧ ∃ v1 v2, Two B w' K (n + 1 + 1) v1 (EB ++ [⟨.slice sp d dc, d, .slice none 0 0, n + 1⟩]) v2 (EI ++ [⟨.slice cp k kc, k, .slice none 0 0, n + 1 + 1⟩]) ∧ Oth [42, 94, 108] w w' ∧ Below B w w' := by
  have hBw : B ≤ w.heap.size := Nat.le_trans h.b.base (Nat.le_of_lt (at_lt h.b.head))
  have hb0 : Below w.heap.size w (w.alloc (.cells #[.int .i64 size, .slice sp d dc, .slice cp k kc] 25)) := alloc_below _ _
  have X : Box (w.alloc (.cells #[.int .i64 size, .slice sp d dc, .slice cp k kc] 25)) w.heap.size (.int .i64 size) (.slice sp d dc) (.slice cp k kc) := Box.new w _ _ _ _
  have o0 : Oth ([] : List TypeId) w (w.alloc (.cells #[.int .i64 size, .slice sp d dc, .slice cp k kc] 25)) := Oth.below hb0
  have T0 : Hid _ := h.oth o0 (by decide) (by decide) (by decide)
  have HX : Hid ((w.alloc (.cells #[.int .i64 size, .slice sp d dc, .slice cp k kc] 25)).heap[w.heap.size]? = some (.cells #[.int .i64 size, .slice sp d dc, .slice cp k kc] 25 (0, 0))) := alloc_at w _
  have k1 := bytes_keep T0.out hE (by omega) sp d dc
  have k2 := fun wx vx EBx (T : Two B wx K (n + 1) vx EBx vI EI) => instrs_keep T hE2 (by omega) cp k kc
  clear h
  go_enter Tryz.func16, Tryz.ntmps16
  go_wp2_with (first
    | (go_at_call 17; refine k1.mono ?_; rintro e w1 ⟨rfl, v1, T1, o1, u1⟩; have x2 : w1.cell? ⟨w.heap.size, 2, none⟩ = some (.slice cp k kc) := (by rw [cell_of (o1.2 _ _ _ _ HX.out (by decide))]; rfl))
    | (go_at_call 39; refine (k2 _ _ _ T1).mono ?_; rintro e w2 ⟨rfl, v2, T2, o2, u2⟩))
  go_end0
  have b1 := two_below T0.out.b.base T0.out.b.head T0.out.b.row u1
  have b2 := two_below T1.i.base T1.i.head T1.i.row u2
  exact ⟨rfl, v1, v2, T2, ((o0.mono (by simp)).trans (o1.mono (by simp))).trans (o2.mono (by simp)), ((hb0.mono hBw).trans b1).trans b2⟩
/-- what Put answers, of any image -/
def putL (size : Int) (ds cs : List Int) (k : Nat) : List Int := if okI size ds cs k then putB size ds cs k else []
def putE (size : Int) (ds cs : List Int) (k : Nat) : Int := if okI size ds cs k then 0 else 1
theorem putL_len (size : Int) (ds cs : List Int) (k : Nat) : (putL size ds cs k).length ≤ 9 + (ds.length + cs.length) := by
  unfold putL; split
  · rw [putB_len]; omega
  · simp
theorem put_own {w : World} {size : Int} {sp : Option Addr} {ds : List Int} {cp : Option Addr} {cs : List Int} {k : Nat} (hE : Env w) (hI : Img w sp ds cp cs k) (dc kc : Nat) (hdc : sp = none → dc = 0) :
    Calls Tryz.prog 10 #[.agg #[.int .i64 size, .slice sp ds.length dc, .slice cp k kc]] w fun e w' => ∃ q c, e = .returned (.tuple #[.slice q (putL size ds cs k).length c, .int .i64 (putE size ds cs k)]) ∧ w'.ownsRow w.heap.size 5 1 (.slice q (putL size ds cs k).length c) (putL size ds cs k).length (byt (putL size ds cs k)) ∧ Below w.heap.size w w' := by
  unfold putL putE
  cases ho : okI size ds cs k
  · refine (Put_no hE hI dc kc ho).mono fun e w' h => ?_
    exact ⟨none, 0, h.1, ⟨rfl, Or.inl ⟨rfl, rfl⟩⟩, h.2⟩
  · refine (Put_yes hE hI dc kc hdc ho).mono fun e w' h => ?_
    obtain ⟨v, rfl, o, hb⟩ := h
    rw [← putB_len size ds cs k] at o
    obtain ⟨q, c, rfl, _⟩ := owns_form o
    exact ⟨q, c, rfl, o, hb⟩
theorem rput_own {w : World} {size : Int} {sp : Option Addr} {ds : List Int} {cp : Option Addr} {cs : List Int} {k : Nat} (hI : Img w sp ds cp cs k) (dc kc : Nat) (hdc : sp = none → dc = 0) :
    Calls Tryz.prog 11 #[.agg #[.int .i64 size, .slice sp ds.length dc, .slice cp k kc]] w fun e w' => ∃ q c, e = .returned (.tuple #[.slice q (putL size ds cs k).length c, .int .i64 (putE size ds cs k)]) ∧ w'.ownsRow w.heap.size 5 1 (.slice q (putL size ds cs k).length c) (putL size ds cs k).length (byt (putL size ds cs k)) ∧ Below w.heap.size w w' := by
  unfold putL putE
  cases ho : okI size ds cs k
  · refine (rPut_no hI dc kc ho).mono fun e w' h => ?_
    exact ⟨none, 0, h.1, ⟨rfl, Or.inl ⟨rfl, rfl⟩⟩, h.2⟩
  · refine (rPut_yes hI dc kc hdc ho).mono fun e w' h => ?_
    obtain ⟨v, rfl, o, hb⟩ := h
    rw [← putB_len size ds cs k] at o
    obtain ⟨q, c, rfl, _⟩ := owns_form o
    exact ⟨q, c, rfl, o, hb⟩
theorem twin_own {w : World} {B g : Nat} {zs : List Int} (h : BRow w g (zs ++ [77])) (hB : B ≤ g) (hl : zs.length ≤ 100000) : w.ownsRow B 5 1 (.slice (some ⟨g, 0, none⟩) zs.length (zs.length + 1)) zs.length (byt zs) := by
  refine ⟨by rw [byt_len, Nat.mul_one], Or.inr ⟨g, zs.length + 1, (byt (zs ++ [77])).toArray, rfl, hB, h, Nat.le_succ _, by simp only [maxLen]; omega, by simp [byt_len], ?_⟩⟩
  rw [Nat.mul_one, byt_app]
  simp [byt_len]
theorem twin_ownI {w : World} {B g k : Nat} {cs : List Int} (h : IRow w g (cs ++ [254, 0, 0, 0])) (hB : B ≤ g) (hc : cs.length = 4 * k) (hl : k ≤ 100000) : w.ownsRow B 64 4 (.slice (some ⟨g, 0, none⟩) k (k + 1)) k (byt cs) := by
  refine ⟨by rw [byt_len]; omega, Or.inr ⟨g, k + 1, (byt (cs ++ [254, 0, 0, 0])).toArray, rfl, hB, h, Nat.le_succ _, by simp only [maxLen]; omega, by simp [byt_len]; omega, ?_⟩⟩
  rw [byt_app, show k * 4 = (byt cs).length by rw [byt_len]; omega]
  simp
theorem lists1 {B : Nat} {w : World} {v : Value} {n : Nat} {ys : List Value} {m : Int} (h : w.ownsRow B 64 4 v n ys) (hm : 0 ≤ m ∧ m ≤ 1000) (hn : n ≤ 1000000) : Ins.Lists B w [⟨v, n, .slice none 0 0, m⟩] 0 := by
  refine ⟨fun j e he => ?_, fun j k e f hjk he hf => ?_, fun j e he => ?_, fun j e he => ?_⟩
  · rcases j with _ | j
    · simp at he; subst he; exact ⟨ys, h, fun h => by omega⟩
    · simp at he
  · rcases j with _ | j
    · rcases k with _ | k
      · exact absurd rfl hjk
      · simp at hf
    · simp at he
  · rcases j with _ | j
    · simp at he; subst he; exact hm
    · simp at he
  · rcases j with _ | j
    · simp at he; subst he; exact hn
    · simp at he
theorem lists3 {B : Nat} {w : World} {v0 v1 v2 : Value} {n0 n1 n2 : Nat} {y0 y1 y2 : List Value} {m0 m1 m2 : Int} (h0 : w.ownsRow B 5 1 v0 n0 y0) (h1 : w.ownsRow B 5 1 v1 n1 y1) (h2 : w.ownsRow B 5 1 v2 n2 y2) (s01 : ∀ g, v0.ownBlock = some g → v1.ownBlock ≠ some g) (s02 : ∀ g, v0.ownBlock = some g → v2.ownBlock ≠ some g) (s12 : ∀ g, v1.ownBlock = some g → v2.ownBlock ≠ some g)
    (k0 : 0 ≤ m0 ∧ m0 ≤ 1000) (k1 : 0 ≤ m1 ∧ m1 ≤ 1000) (k2 : 0 ≤ m2 ∧ m2 ≤ 1000) (l0 : n0 ≤ 1000000) (l1 : n1 ≤ 1000000) (l2 : n2 ≤ 1000000) : Byt.Lists B w [⟨v0, n0, .slice none 0 0, m0⟩, ⟨v1, n1, .slice none 0 0, m1⟩, ⟨v2, n2, .slice none 0 0, m2⟩] 0 := by
  refine ⟨fun j e he => ?_, fun j k e f hjk he hf => ?_, fun j e he => ?_, fun j e he => ?_⟩
  · rcases j with _ | _ | _ | j
    · simp at he; subst he; exact ⟨y0, h0, fun h => by omega⟩
    · simp at he; subst he; exact ⟨y1, h1, fun h => by omega⟩
    · simp at he; subst he; exact ⟨y2, h2, fun h => by omega⟩
    · simp at he
  · have sw : ∀ {a b : Value}, (∀ g, a.ownBlock = some g → b.ownBlock ≠ some g) → ∀ g, b.ownBlock = some g → a.ownBlock ≠ some g := fun h g hb ha => h g ha hb
    rcases j with _ | _ | _ | j
    · rcases k with _ | _ | _ | k
      · exact absurd rfl hjk
      · simp at he hf; subst he hf; exact s01
      · simp at he hf; subst he hf; exact s02
      · simp at hf
    · rcases k with _ | _ | _ | k
      · simp at he hf; subst he hf; exact sw s01
      · exact absurd rfl hjk
      · simp at he hf; subst he hf; exact s12
      · simp at hf
    · rcases k with _ | _ | _ | k
      · simp at he hf; subst he hf; exact sw s02
      · simp at he hf; subst he hf; exact sw s12
      · exact absurd rfl hjk
      · simp at hf
    · simp at he
  · rcases j with _ | _ | _ | j
    · simp at he; subst he; exact k0
    · simp at he; subst he; exact k1
    · simp at he; subst he; exact k2
    · simp at he
  · rcases j with _ | _ | _ | j
    · simp at he; subst he; exact l0
    · simp at he; subst he; exact l1
    · simp at he; subst he; exact l2
    · simp at he
end Go.Proofs.YtcjghnnliepjjaaGreatDoor
