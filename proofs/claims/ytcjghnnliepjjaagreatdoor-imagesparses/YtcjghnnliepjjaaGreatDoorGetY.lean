/- The image of bytes that may be an image's: Get, instruction by instruction. -/
import Derived.Test.YtcjghnnliepjjaaGreatDoorGetX
import Derived.WalkSpells
namespace Go.Proofs.YtcjghnnliepjjaaGreatDoor
open Go Go.RowKit
set_option maxRecDepth 100000
set_option linter.unusedVariables false
/-- what lies in memory while bytes are read: the answer's block, the counts, the image's own block -/
structure GSt (w : World) (R C M : Nat) (n d k : Int) (vd vc : Value) : Prop where
  r0 : w.cell? ⟨R, 0, none⟩ = some (.int .i64 0)
  r1 : w.cell? ⟨R, 1, none⟩ = some (.slice none 0 0)
  r2 : w.cell? ⟨R, 2, none⟩ = some (.slice none 0 0)
  rf : ∀ i, w.frozen? ⟨R, i, none⟩ = false
  c1 : w.cell? ⟨C, 1, none⟩ = some (.int .i64 d)
  m : w.heap[M]? = some (.cells #[.int .i64 n, vd, vc] 25 (0, 0))
  rc : R < C
  cm : C < M
theorem GSt.keep {w w' : World} {R C M : Nat} {n d k : Int} {vd vc : Value} (h : GSt w R C M n d k vd vc) {B : Nat} (hb : Below B w w') (hB : M < B) : GSt w' R C M n d k vd vc :=
  ⟨((bcell hb).1 _ _ (by have := h.rc; have := h.cm; omega)).trans h.r0, ((bcell hb).1 _ _ (by have := h.rc; have := h.cm; omega)).trans h.r1, ((bcell hb).1 _ _ (by have := h.rc; have := h.cm; omega)).trans h.r2, fun i => ((bcell hb).2 _ _ (by have := h.rc; have := h.cm; omega)).trans (h.rf i), ((bcell hb).1 _ _ (by have := h.cm; omega)).trans h.c1, (hb.block _ hB).trans h.m, h.rc, h.cm⟩
theorem set_block {w : World} {p : Nat} {cs : Array Value} {t : TypeId} (h : w.heap[p]? = some (.cells cs t (0, 0))) (k : Nat) (v : Value) : (w.setCell ⟨p, k, none⟩ v).heap[p]? = some (.cells (cs.setIfInBounds k v) t (0, 0)) := by
  have hl := at_lt h
  have hh := (Array.getElem?_eq_some_iff.1 h).2
  unfold World.setCell
  rw [Array.getElem?_eq_getElem (by simpa using hl), Array.getElem_modify]
  simp [hh]
theorem GSt.setD {w : World} {R C M : Nat} {n d k : Int} {vd vc : Value} (h : GSt w R C M n d k vd vc) (v : Value) : GSt (w.setCell ⟨M, 1, none⟩ v) R C M n d k v vc :=
  have h1 := h.rc
  have h2 := h.cm
  ⟨(setCell_cell (by show R ≠ M; omega)).trans h.r0, (setCell_cell (by show R ≠ M; omega)).trans h.r1, (setCell_cell (by show R ≠ M; omega)).trans h.r2, fun i => by
    have := h.rf i
    unfold World.frozen? at this ⊢
    rwa [show (w.setCell ⟨M, 1, none⟩ v).heap[(⟨R, i, none⟩ : Addr).block]? = w.heap[R]? from Below.heap_setCell _ _ _ _ (by show R ≠ M; omega)], (setCell_cell (by show C ≠ M; omega)).trans h.c1, set_block h.m 1 v, h1, h2⟩
theorem GSt.setC {w : World} {R C M : Nat} {n d k : Int} {vd vc : Value} (h : GSt w R C M n d k vd vc) (v : Value) : GSt (w.setCell ⟨M, 2, none⟩ v) R C M n d k vd v :=
  have h1 := h.rc
  have h2 := h.cm
  ⟨(setCell_cell (by show R ≠ M; omega)).trans h.r0, (setCell_cell (by show R ≠ M; omega)).trans h.r1, (setCell_cell (by show R ≠ M; omega)).trans h.r2, fun i => by
    have := h.rf i
    unfold World.frozen? at this ⊢
    rwa [show (w.setCell ⟨M, 2, none⟩ v).heap[(⟨R, i, none⟩ : Addr).block]? = w.heap[R]? from Below.heap_setCell _ _ _ _ (by show R ≠ M; omega)], (setCell_cell (by show C ≠ M; omega)).trans h.c1, set_block h.m 2 v, h1, h2⟩
/-- bytes put behind a row of one's own, as one step of a region that draws its order -/
theorem step_more {w : World} {ops : Array Oper} {o : Oper} {a : Act} {K : Act → World → Prop} {Q : Exit → Act → World → Prop} {X : Prop} (hgd : o.guard = none) (s x : Operand)
    (ho : o.op = .call { callee := .builtin .append, args := #[s, x], argTypes := #[22, 22] }) {B n m t c b off : Nat} {v : Value} {xs zs : List Int} (hse : a.eval s = v) (hx : a.eval x = .slice (some ⟨b, off, none⟩) m c) (hm : zs.length = m) (ht : n + m = t)
    (hown : w.ownsRow B 5 1 v n (byt xs)) (hsrc : Src w (some ⟨b, off, none⟩) zs) (hlen : t ≤ 1000000) (hB : B ≤ w.heap.size)
    (h : ∀ sp' c' w', Hid (w'.ownsRow B 5 1 (.slice sp' t c') t (byt (xs ++ zs))) → Hid (w.grownBy w' v.ownBlock) → K (a.put o.dst (.slice sp' t c')) w') :
    if Region.wanted o (yielded ops a.tmps) = true then Oper.wp Tryz.prog o a w K Q else X := by
  subst hm ht
  have hw : Region.wanted o (yielded ops a.tmps) = true := by simp [Region.wanted, hgd]
  rw [if_pos hw]
  obtain ⟨i, hi, hz, hs, hby⟩ := info_parts infoB
  obtain ⟨v', w', hr, h2, h3, h4⟩ := run_append_own (P := Tryz.prog) w B 22 o.type 5 i (.int .u8 0) 1 1 Tryz.underlying22 hi hz hs hby rfl (by decide) v n (byt xs) hown ⟨b, off, none⟩ zs.length c (byt zs) (by rw [byt_len, Nat.mul_one]) (src_news hsrc) (byt_one zs) (by simp only [maxLen]; omega) (by omega) hB
  obtain ⟨sp', c', rfl, _⟩ := owns_form h2
  unfold Oper.wp execOp
  simp only [ho, resolve, invoke, builtin, Sem.run_bind, Sem.run_pure, Result.andThen_ok, List.map_toArray, List.map_cons, List.map_nil, hse, hx, hr]
  exact h sp' c' w' (by show w'.ownsRow _ _ _ _ _ _; rw [byt_app]; exact h2) h3
/-- what is answered -/
def GetPost (w w' : World) (e : Ending) (n : Int) (d k : Nat) (zs : List Int) : Prop :=
  (if mayAll ((zs.drop 9).drop d) k = true then ∃ vd vc, e = .returned (.tuple #[.agg #[.int .i64 n, vd, vc], .int .i64 0]) ∧ w'.ownsRow w.heap.size 5 1 vd ((zs.drop 9).take d).length (byt ((zs.drop 9).take d)) ∧ w'.ownsRow w.heap.size 64 4 vc k (byt ((zs.drop 9).drop d)) else e = .returned (.tuple #[.agg #[.int .i64 0, .slice none 0 0, .slice none 0 0], .int .i64 14])) ∧ Below w.heap.size w w'
theorem GetPost.no {w w' : World} {n : Int} {d k i : Nat} {zs ys cs : List Int} (h1 : zs.drop 9 = ys) (h2 : ys.drop d = cs) (hi : i < k) (h : mayAt cs i = false) (hb : Below w.heap.size w w') :
    GetPost w w' (.returned (.tuple #[.agg #[.int .i64 0, .slice none 0 0, .slice none 0 0], .int .i64 14])) n d k zs := by
  unfold GetPost
  rw [h1, h2, if_neg (by rw [mayAll_no hi h]; decide)]
  exact ⟨rfl, hb⟩
theorem GetPost.yes {w wr W : World} {n : Int} {d i : Nat} {zs ys cs : List Int} {dp cp : Option Addr} {dcp cc B : Nat} (h1 : zs.drop 9 = ys) (h2 : ys.drop d = cs) (hl : cs.length = 4 * i) (h : ∀ j, j < i → mayAt cs j = true) (hb : Below w.heap.size w W) (hR : w.heap.size < B)
    (od : wr.ownsRow B 5 1 (.slice dp d dcp) (ys.take d).length (byt (ys.take d))) (oc : wr.ownsRow B 64 4 (.slice cp i cc) i (byt (cs.take (4 * i)))) (hW : Buts [w.heap.size] wr W) :
    GetPost w W (.returned (.tuple #[.agg #[.int .i64 n, .slice dp d dcp, .slice cp i cc], .int .i64 0])) n d i zs := by
  unfold GetPost
  rw [h1, h2, if_pos ((mayAll_iff cs i).2 h)]
  refine ⟨⟨_, _, rfl, owns_base (owns_buts od hW fun g hg => ?_) (Nat.le_of_lt hR), ?_⟩, hb⟩
  · have := (od.lt g hg).1; simp; omega
  · have q := owns_base (owns_buts oc hW fun g hg => by have := (oc.lt g hg).1; simp; omega) (Nat.le_of_lt hR)
    rwa [← hl, List.take_length] at q
theorem iGet_yes {w : World} (hE : Env w) {x a b c : Int} (hx : byte x) (ha : byte a) (hb : byte b) (hc : byte c) (hm : may x.toNat a b c = true) :
    Calls Tryz.prog 66 #[.agg #[.int .u8 x, .int .u8 a, .int .u8 b, .int .u8 c]] w fun e w' => e = .returned (.tuple #[.agg #[.int .u8 x, .int .u8 a, .int .u8 b, .int .u8 c], .int .i64 0]) ∧ Below w.heap.size w w' := by
  obtain ⟨o, rfl⟩ : ∃ o : Nat, x = o := ⟨x.toNat, by unfold byte at hx; omega⟩
  exact Get_yes o (by unfold byte at hx; omega) a b c w hE ha hb hc hm
theorem iGet_no {w : World} (hE : Env w) {x a b c : Int} (hx : byte x) (ha : byte a) (hb : byte b) (hc : byte c) (hm : may x.toNat a b c = false) :
    Calls Tryz.prog 66 #[.agg #[.int .u8 x, .int .u8 a, .int .u8 b, .int .u8 c]] w fun e w' => e = .returned (.tuple #[.agg #[.int .u8 0, .int .u8 0, .int .u8 0, .int .u8 0], .int .i64 14]) ∧ Below w.heap.size w w' := by
  obtain ⟨o, rfl⟩ : ∃ o : Nat, x = o := ⟨x.toNat, by unfold byte at hx; omega⟩
  exact Get_no o (by unfold byte at hx; omega) a b c w hE ha hb hc hm
theorem three_buts {wr : World} {R : Nat} (a b c : Value) : Buts [R] wr (((wr.setCell ⟨R, 0, none⟩ a).setCell ⟨R, 1, none⟩ b).setCell ⟨R, 2, none⟩ c) := ((Buts.cell _ _ _ _).trans (Buts.cell _ _ _ _)).trans (Buts.cell _ _ _ _)
theorem Src.first4 {w : World} {b o g i : Nat} {cs : List Int} (h : Src w (some ⟨b, o, none⟩) (cs.drop (4 * i))) (hl : cs.length = 4 * (i + (g + 1))) :
    w.cell? ⟨b, o, none⟩ = some (.int .u8 (cs.getD (4 * i) 0)) ∧ w.cell? ⟨b, o + 1, none⟩ = some (.int .u8 (cs.getD (4 * i + 1) 0)) ∧ w.cell? ⟨b, o + 2, none⟩ = some (.int .u8 (cs.getD (4 * i + 2) 0)) ∧ w.cell? ⟨b, o + 3, none⟩ = some (.int .u8 (cs.getD (4 * i + 3) 0)) := by
  obtain ⟨b', off', e, hc⟩ := h (by simp; omega)
  simp only [Option.some.injEq, Addr.mk.injEq, and_true] at e
  obtain ⟨rfl, rfl⟩ := e
  have q : ∀ j, j < 4 → w.cell? ⟨b, o + j, none⟩ = some (.int .u8 (cs.getD (4 * i + j) 0)) := fun j hj => by
    rw [hc j (by simp; omega)]
    simp
  exact ⟨q 0 (by omega), q 1 (by omega), q 2 (by omega), q 3 (by omega)⟩
theorem drew_one {w w7 : World} (h : Below w.drew.heap.size w.drew w7) : Below w.heap.size w w7 := ((Below.refl w.heap.size w).drew).trans h
theorem drew_two {w w7 : World} {a b c d : Value} {t : TypeId} (h : Below (w.alloc (.cells #[a, b, c, d] t)).drew.heap.size (w.alloc (.cells #[a, b, c, d] t)).drew w7) :
    Below w.heap.size w w7 ∧ w7.cell? ⟨w.heap.size, 0, none⟩ = some a ∧ w7.cell? ⟨w.heap.size, 1, none⟩ = some b ∧ w7.cell? ⟨w.heap.size, 2, none⟩ = some c ∧ w7.cell? ⟨w.heap.size, 3, none⟩ = some d ∧ ∀ i, w7.frozen? ⟨w.heap.size, i, none⟩ = false := by
  have h' := drew_one h
  have hl : w.heap.size < (w.alloc (.cells #[a, b, c, d] t)).heap.size := by rw [alloc_size]; omega
  have hq : w7.heap[w.heap.size]? = some (.cells #[a, b, c, d] t (0, 0)) := (h'.block _ hl).trans (alloc_at w _)
  exact ⟨two_allocs h', by rw [cell_of hq]; rfl, by rw [cell_of hq]; rfl, by rw [cell_of hq]; rfl, by rw [cell_of hq]; rfl, fun i => by simp [World.frozen?, hq]⟩
theorem block_ne {w : World} {B g : Nat} {v : Value} {n : Nat} {xs : List Value} {t t' : TypeId} {s : Nat} {cs : Array Value} {f : Nat × Nat} (h : w.ownsRow B t s v n xs) (hv : v.ownBlock = some g) {K : Nat} (hK : w.heap[K]? = some (.cells cs t' f)) (ht : t ≠ t') : g ≠ K := by
  rintro rfl
  rcases h.2 with ⟨rfl, _⟩ | ⟨g', c, cur, rfl, _, hh, _⟩
  · simp [Value.ownBlock] at hv
  · have : g' = g := by simpa [Value.ownBlock] using hv
    subst this
    rw [hK] at hh
    simp only [Option.some.injEq, Obj.cells.injEq] at hh
    exact ht hh.2.1.symm
theorem own_ne {w : World} {B B' g H : Nat} {v v' : Value} {n n' : Nat} {xs xs' : List Value} {t t' : TypeId} {s s' : Nat} (h : w.ownsRow B t s v n xs) (hv : v.ownBlock = some g) (h' : w.ownsRow B' t' s' v' n' xs') (hv' : v'.ownBlock = some H) (ht : t ≠ t') : g ≠ H := by
  rcases h'.2 with ⟨rfl, _⟩ | ⟨g', c, cur, rfl, _, hh, _⟩
  · simp [Value.ownBlock] at hv'
  · have : g' = H := by simpa [Value.ownBlock] using hv'
    subst this
    exact block_ne h hv hh ht
/-- a row stays, where another one of another type grows -/
theorem owns_apart {w w' : World} {B B' n n' s s' : Nat} {t t' : TypeId} {v v' : Value} {xs xs' : List Value} (h : w.ownsRow B t s v n xs) (h' : w.ownsRow B' t' s' v' n' xs') (ht : t ≠ t') (hg : w.grownBy w' v'.ownBlock) : w'.ownsRow B t s v n xs :=
  owns_buts h (Buts.grown hg) fun g hv hm => own_ne h hv h' (by simpa using hm) ht rfl
theorem set4 {w w7 : World} {R : Nat} {a b c d x y z u : Value} (hB : Below w.heap.size w w7) (hR : w.heap.size ≤ R) (r0 : w7.cell? ⟨R, 0, none⟩ = some x) (r1 : w7.cell? ⟨R, 1, none⟩ = some y) (r2 : w7.cell? ⟨R, 2, none⟩ = some z) (r3 : w7.cell? ⟨R, 3, none⟩ = some u) :
    ∃ W, W = (((w7.setCell ⟨R, 0, none⟩ a).setCell ⟨R, 1, none⟩ b).setCell ⟨R, 2, none⟩ c).setCell ⟨R, 3, none⟩ d ∧ Below w.heap.size w W ∧ W.cell? ⟨R, 0, none⟩ = some a ∧ W.cell? ⟨R, 1, none⟩ = some b ∧ W.cell? ⟨R, 2, none⟩ = some c ∧ W.cell? ⟨R, 3, none⟩ = some d := by
  refine ⟨_, rfl, (((hB.setCell hR _).setCell hR _).setCell hR _).setCell hR _, ?_, ?_, ?_, ?_⟩
  · rw [set_other (by decide), set_other (by decide), set_other (by decide)]; exact set_self (by rw [r0]; rfl)
  · rw [set_other (by decide), set_other (by decide)]; exact set_self (by rw [set_other (by decide), r1]; rfl)
  · rw [set_other (by decide)]; exact set_self (by rw [set_other (by decide), set_other (by decide), r2]; rfl)
  · exact set_self (by rw [set_other (by decide), set_other (by decide), set_other (by decide), r3]; rfl)
theorem new4 {w w7 : World} {a b c d : Value} {t : TypeId} (hB : Below w.heap.size w w7) :
    ∃ W, W = w7.alloc (.cells #[a, b, c, d] t) ∧ Below w.heap.size w W ∧ W.cell? ⟨w7.heap.size, 0, none⟩ = some a ∧ W.cell? ⟨w7.heap.size, 1, none⟩ = some b ∧ W.cell? ⟨w7.heap.size, 2, none⟩ = some c ∧ W.cell? ⟨w7.heap.size, 3, none⟩ = some d := by
  have h0 := alloc_at w7 (.cells #[a, b, c, d] t)
  exact ⟨_, rfl, on1 hB (alloc_below _ _), by rw [cell_of h0]; rfl, by rw [cell_of h0]; rfl, by rw [cell_of h0]; rfl, by rw [cell_of h0]; rfl⟩
/-- what holds at each round -/
structure LI (w wx : World) (b o c3 g : Nat) (cs : List Int) (i : Nat) (n d k : Int) (vd : Value) (cp : Option Addr) (cc : Nat) (ds : List Int) (R C M B : Nat) : Prop where
  cap : 4 * g ≤ c3
  src : Src w (some ⟨b, o, none⟩) (cs.drop (4 * i))
  g : GSt wx R C M n d k vd (.slice cp i cc)
  od : wx.ownsRow B 5 1 vd ds.length (byt ds)
  oc : wx.ownsRow B 64 4 (.slice cp i cc) i (byt (cs.take (4 * i)))
  z : B ≤ wx.heap.size
  may : ∀ j, j < i → mayAt cs j = true
theorem free_of {w : World} {b : Nat} {cs : Array Value} {t : TypeId} (h : w.heap[b]? = some (.cells cs t (0, 0))) (i : Nat) : w.frozen? ⟨b, i, none⟩ = false := by simp [World.frozen?, h]
set_option maxHeartbeats 4000000 in
theorem Get_fits {w : World} (hE : Env w) {sp : Option Addr} {zs : List Int} (hs : Src w sp zs) (hb : Bs zs) (c : Nat) (hc : zs.length ≤ c) (n : Int) (d k : Nat) (h9 : zs.length = 9 + (d + 4 * k)) (hk : k ≤ 1024) (hd : d ≤ 4096) (hok : okC n d k = true)
    (cR : ∀ W, Below w.heap.size w W → Calls Tryz.prog 65 #[.slice sp zs.length c] W fun e w' => e = .returned (.tuple #[.agg #[.int .i64 n, .int .i64 d, .int .i64 k], .bool true]) ∧ Below W.heap.size W w') :
    Calls Tryz.prog 20 #[.slice sp zs.length c] w fun e w' => GetPost w w' e n d k zs := by
  have cM := mayBe_any n d k
  rw [hok] at cM
  have cA := allBytes_any n d k (by omega) (by omega)
  rw [show 9 + (d : Int) + (k : Int) * 4 = (zs.length : Int) by omega] at cA
  obtain ⟨b, off, rfl⟩ := hs.some_of (by omega)
  obtain ⟨o1, ho1, hs1⟩ := cut_from hs hc 9 (by omega)
  have h9c : 9 ≤ c := by omega
  have HE : Hid (Env w) := hE
  have HS : Hid (Src w (some ⟨b, o1, none⟩) (zs.drop 9)) := hs1
  have HL : Hid (zs.length = 9 + (d + 4 * k)) := h9
  have hzl : ((zs.length : Nat) : Int) = 9 + ((d : Int) + 4 * k) := by omega
  have HO1 : Hid ((if c = 9 then some (⟨b, off, none⟩ : Addr) else some ⟨b, off + 9, none⟩) = some ⟨b, o1, none⟩) := ho1
  have h9n : 9 ≤ zs.length := by omega
  have HYL : Hid (zs.length - 9 = (zs.drop 9).length) := by show _ = _; simp
  have HC : Hid ((zs.drop 9).length ≤ c - 9 ∧ (zs.drop 9).length = d + 4 * k) := by refine ⟨?_, ?_⟩ <;> simp <;> omega
  have HB : Hid (Bs (zs.drop 9)) := hb.drop 9
  clear hE hs hs1 hok hzl h9
  go_enter Tryz.func20, Tryz.ntmps20
  go_wp2_with (first
    | (go_at_call 65; refine (cR _ (alloc_below _ _)).mono ?_; rintro e w1 ⟨rfl, hb1⟩; obtain ⟨r0, r1, r2⟩ := cells_box hb1; obtain ⟨hl, fz⟩ := free_box hb1)
    | (go_at_call 35; refine (cM _).mono ?_; rintro e w2 ⟨rfl, hb2⟩; obtain ⟨u0, u1, u2⟩ := cells_box hb2)
    | (go_at_call 30; refine (cA _).mono ?_; rintro e w3 ⟨rfl, hb3⟩; have U0 := ((bcell hb3).1 _ _ (keep_lt hb2 hl)).trans ((keep_cell hb2 hl).trans r0); have v0 := ((bcell hb3).1 _ _ (cell_lt u0)).trans u0; have v1 := ((bcell hb3).1 _ _ (cell_lt u0)).trans u1; have v2 := ((bcell hb3).1 _ _ (cell_lt u0)).trans u2))
  have hl3 : w1.heap.size < w3.heap.size := by have := two_lt hb2; have := hb3.size; rw [alloc_size] at *; omega
  have B3 : Hid (Below w.heap.size w w3) := on1 (on1 (two_allocs hb1) (two_allocs hb2)) hb3
  have G4 : Hid (GSt (w3.alloc (.cells #[.int .i64 n, .slice none 0 0, .slice none 0 0] 25)) w.heap.size w1.heap.size w3.heap.size n d k (.slice none 0 0) (.slice none 0 0)) := by
    have q := (bcell (alloc_below w3 (.cells #[.int .i64 n, .slice none 0 0, .slice none 0 0] 25)))
    have K1 := fun i => (q.1 w.heap.size i (by omega)).trans (((bcell hb3).1 _ i (keep_lt hb2 hl)).trans (keep_cell hb2 hl))
    refine ⟨(K1 0).trans r0, (K1 1).trans r1, (K1 2).trans r2, fun i => (q.2 _ i (by omega)).trans (((bcell hb3).2 _ i (keep_lt hb2 hl)).trans ((keep_free hb2 hl).trans (fz i))), (q.1 _ 1 hl3).trans v1, alloc_at _ _, hl, hl3⟩
  have z4 : w3.heap.size < (w3.alloc (.cells #[.int .i64 n, .slice none 0 0, .slice none 0 0] 25)).heap.size := by rw [alloc_size]; omega
  have B4 : Hid (Below w3.heap.size w3 (w3.alloc (.cells #[.int .i64 n, .slice none 0 0, .slice none 0 0] 25))) := alloc_below _ _
  clear hb1 hb2 hb3 r0 r1 r2 fz u0 u1 u2 U0 v0 v1 v2 cR cM cA
  have hyl := HYL.out
  rw [hyl]
  generalize w3.alloc (.cells #[.int .i64 n, .slice none 0 0, .slice none 0 0] 25) = W4 at *
  clear hyl HYL
  generalize hys : zs.drop 9 = ys at *
  have HYS : Hid (zs.drop 9 = ys) := hys
  clear hys
  generalize c - 9 = c1 at *
  have hdc : d ≤ c1 := by have := HC.out; omega
  have t1 : W4.cell? ⟨w3.heap.size, 1, none⟩ = some (.slice none 0 0) := cell_of G4.out.m
  have tc : W4.cell? ⟨w1.heap.size, 1, none⟩ = some (.int .i64 d) := G4.out.c1
  have S4 : Hid (Src W4.drew (some ⟨b, o1, none⟩) (ys.take d)) := (HS.out.below (B3.out.trans ((B4.out.drew).mono (by omega)))).take d
  have HOwn : Hid (W4.drew.ownsRow W4.heap.size 5 1 (.slice none 0 0) 0 (byt [])) := World.ownsRow_nil _ _ _ _
  obtain ⟨o2, ho2, hs2⟩ := cut_from HS.out (show ys.length ≤ c1 from HC.out.1) d (by have := HC.out; omega)
  have hdl : d ≤ ys.length := by have := HC.out; omega
  have HS2 : Hid (Src w (some ⟨b, o2, none⟩) (ys.drop d)) := hs2
  clear hs2 HS
  go_region_law (refine step_more rfl (.tmp 36) (.tmp 40) rfl (B := W4.heap.size) (n := 0) (m := d) (c := c1) (b := b) (off := o1) (xs := []) (v := .slice none 0 0) (zs := ys.take d) (by simp [Act.eval, Act.put]) (by simp [Act.eval, Act.put]) (by have := HC.out; simp; omega) (Nat.zero_add d) HOwn.out S4.out (by omega) (Nat.le_refl _) ?_; intro dp dcp w5 O5 G5; have L5 : Below W4.heap.size W4 w5 := (((Below.refl W4.heap.size W4).drew).trans (own_grown HOwn.out G5.out (Nat.le_refl _))); have H5 : Hid (GSt w5 w.heap.size w1.heap.size w3.heap.size n d k (.slice none 0 0) (.slice none 0 0)) := (G4.out.keep L5 z4); have x5 : w5.cell? ⟨w3.heap.size, 1, none⟩ = some (.slice none 0 0) := (cell_of H5.out.m); have f5 : w5.frozen? ⟨w3.heap.size, 1, none⟩ = false := (free_of H5.out.m 1))
  all_goals
    have H6 := H5.out.setD (.slice dp d dcp)
    have L6 : Hid (Below W4.heap.size W4 (w5.setCell ⟨w3.heap.size, 1, none⟩ (.slice dp d dcp)) ∨ True) := Or.inr trivial
    have B6 : Hid (Below w3.heap.size w3 (w5.setCell ⟨w3.heap.size, 1, none⟩ (.slice dp d dcp))) := ((B4.out.trans (L5.mono (by omega))).setCell (Nat.le_refl _) _)
    have O6 : Hid ((w5.setCell ⟨w3.heap.size, 1, none⟩ (.slice dp d dcp)).ownsRow W4.heap.size 5 1 (.slice dp d dcp) (ys.take d).length (byt (ys.take d))) := by
      show World.ownsRow _ _ _ _ _ _ _
      rw [show (ys.take d).length = d by have := HC.out; simp; omega]
      refine owns_buts (l := [w3.heap.size]) (by simpa using O5.out) (Buts.cell _ _ _ _) fun g hg => ?_
      have := (O5.out.lt g hg).1
      simp; omega
    have z6 : W4.heap.size ≤ (w5.setCell ⟨w3.heap.size, 1, none⟩ (.slice dp d dcp)).heap.size := by rw [setCell_size]; exact L5.size
    have tc6 : (w5.setCell ⟨w3.heap.size, 1, none⟩ (.slice dp d dcp)).cell? ⟨w1.heap.size, 1, none⟩ = some (.int .i64 d) := H6.c1
    have HH6 : Hid (GSt (w5.setCell ⟨w3.heap.size, 1, none⟩ (.slice dp d dcp)) w.heap.size w1.heap.size w3.heap.size n d k (.slice dp d dcp) (.slice none 0 0)) := H6
    clear H5 L5 x5 f5 H6 L6 O5 G5 HOwn
    generalize w5.setCell ⟨w3.heap.size, 1, none⟩ (.slice dp d dcp) = W6 at *
    go_wp2
    have hm0 : ys.length - d = 4 * k := by have := HC.out; omega
    rw [hm0]
    have HCL : Hid ((ys.drop d).length = 4 * k) := by show _ = _; simp; exact hm0
    have HBC : Hid (Bs (ys.drop d)) := HB.out.drop d
    have hc2 : 4 * k ≤ c1 - d := by have := HC.out; omega
    generalize c1 - d = c2 at *
    clear hm0
    generalize hcs : ys.drop d = cs at *
    have HCS : Hid (ys.drop d = cs) := hcs
    clear hcs tc6 S4 ho1 ho2 t1 tc
    go_loopg [7] k (fun g s7 wx => ∃ (i o c3 cc : Nat) (cp : Option Addr), i + g = k ∧ s7 = .slice (some ⟨b, o, none⟩) (4 * g) c3 ∧ Hid (LI w wx b o c3 g cs i n d k (.slice dp d dcp) cp cc (ys.take d) w.heap.size w1.heap.size w3.heap.size W4.heap.size) ∧ Hid (Below w3.heap.size w3 wx))
    case atStart => exact ⟨0, o2, c2, 0, none, by omega, rfl, ⟨hc2, by simpa using HS2.out, HH6.out, O6.out, by simpa [byt] using World.ownsRow_nil _ _ _ _, z6, fun j hj => by omega⟩, B6.out⟩
    case round =>
      clear O6 z6 HH6 B6
      obtain ⟨i, o, c3, cc, cp, hig, rfl, HI, HB6⟩ := hrel
      have r0 := HI.out.g.r0
      have r1 := HI.out.g.r1
      have r2 := HI.out.g.r2
      have rf := HI.out.g.rf
      have m0 := cell_of (i := 0) HI.out.g.m
      have m1 := cell_of (i := 1) HI.out.g.m
      have m2 := cell_of (i := 2) HI.out.g.m
      simp only [List.getElem?_toArray, List.getElem?_cons_zero, List.getElem?_cons_succ] at m0 m1 m2
      cases gk with
      | zero =>
        have hik : i = k := by omega
        subst hik
        clear hig
        go_wp2
        obtain ⟨W, hW, f0, f1, f2, fb⟩ := fin_set (a := .int .i64 n) (b := .slice dp d dcp) (c := .slice cp i cc) (on1 B3.out HB6.out) (Nat.le_refl _) r0 r1 r2
        have hbt : Buts [w.heap.size] wr W := by rw [hW]; exact three_buts _ _ _
        rw [← hW]
        exact bodyPost_ret (v := .tuple #[.agg #[.int .i64 n, .slice dp d dcp, .slice cp i cc], .int .i64 0]) (by simp [results, Tryz.results20, go_sem, f0, f1, f2]) rfl (GetPost.yes HYS.out HCS.out HCL.out HI.out.may fb (by omega) HI.out.od HI.out.oc hbt)
      | succ g =>
        obtain ⟨q0, q1, q2, q3⟩ := Src.first4 (g := g) (HI.out.src.below (on1 B3.out HB6.out)) (by rw [HCL.out]; omega)
        have y0 := HBC.out.at (4 * i)
        have y1 := HBC.out.at (4 * i + 1)
        have y2 := HBC.out.at (4 * i + 2)
        have y3 := HBC.out.at (4 * i + 3)
        have HT : Hid (cs.take (4 * i) ++ [cs.getD (4 * i) 0, cs.getD (4 * i + 1) 0, cs.getD (4 * i + 2) 0, cs.getD (4 * i + 3) 0] = cs.take (4 * (i + 1))) := take_four cs i (by rw [HCL.out]; omega)
        have hEr : Env wr.drew := HE.out.on (on1 B3.out HB6.out).drew
        have lbw := cell_lt q0
        have nb1 : b ≠ wr.heap.size := by omega
        have nb2 : wr.heap.size ≠ b := by omega
        have hEq : ∀ x, Env (wr.alloc x).drew := fun x => HE.out.on (on1 (on1 B3.out HB6.out) (alloc_below _ _)).drew
        obtain ⟨o4, ho4, hs4⟩ := cut_from (c := c3) HI.out.src (by have := HI.out.cap; simp [HCL.out]; omega) 4 (by simp [HCL.out]; omega)
        have HS4 : Hid (Src w (some ⟨b, o4, none⟩) (cs.drop (4 * (i + 1)))) := by
          have := hs4
          rw [List.drop_drop, show 4 * i + 4 = 4 * (i + 1) by omega] at this
          exact this
        clear hs4
        have HCP : Hid (4 * (g + 1) ≤ c3) := HI.out.cap
        obtain ⟨m, hm⟩ : ∃ m, 4 * (g + 1) = m := ⟨_, rfl⟩
        have HM : Hid (m = 4 * (g + 1)) := hm.symm
        rw [hm]
        have hm4 : 4 ≤ m := by omega
        have hm4' : (0 : Int) < m := by omega
        have e1 : (1 : Int) < m := by omega
        have e2 : (2 : Int) < m := by omega
        have e3 : (3 : Int) < m := by omega
        clear hm
        cases hr : mayAt cs i with
        | false =>
          have cG : ∀ W, Env W → _ := fun W hW => iGet_no (w := W) hW y0 y1 y2 y3 hr
          clear HT HS4 ho4
          generalize cs.getD (4 * i) 0 = z0 at *
          generalize cs.getD (4 * i + 1) 0 = z1 at *
          generalize cs.getD (4 * i + 2) 0 = z2 at *
          generalize cs.getD (4 * i + 3) 0 = z3 at *
          go_wp2
          go_region_held3 (fun w' => w'.cell? ⟨b, o, none⟩ = some (.int .u8 z0) ∧ w'.cell? ⟨b, o + 1, none⟩ = some (.int .u8 z1) ∧ w'.cell? ⟨b, o + 2, none⟩ = some (.int .u8 z2) ∧ w'.cell? ⟨b, o + 3, none⟩ = some (.int .u8 z3)) (go_keep) (first
            | (go_at_call 66; (with_reducible refine (cG wr.drew hEr).mono ?_); rintro e w7 ⟨rfl, hb7⟩; have L7 := drew_one hb7; have p0 := ((bcell L7).1 _ _ lbw).trans q0; have p1 := ((bcell L7).1 _ _ lbw).trans q1; have p2 := ((bcell L7).1 _ _ lbw).trans q2; have p3 := ((bcell L7).1 _ _ lbw).trans q3)
            | (go_at_call 66; (with_reducible refine (cG (wr.alloc _).drew (hEq _)).mono ?_); rintro e w7 ⟨rfl, hb7⟩; obtain ⟨L7, a0, a1, a2, a3, af⟩ := drew_two hb7; have p0 := ((bcell L7).1 _ _ lbw).trans q0; have p1 := ((bcell L7).1 _ _ lbw).trans q1; have p2 := ((bcell L7).1 _ _ lbw).trans q2; have p3 := ((bcell L7).1 _ _ lbw).trans q3))
          · obtain ⟨W8, hW8, F8, -, -, -, -⟩ := new4 (a := .int .u8 0) (b := .int .u8 0) (c := .int .u8 0) (d := .int .u8 0) (t := 64) L7
            rw [← hW8]
            have R0 := ((bcell F8).1 _ _ (cell_lt r0)).trans r0
            have R1 := ((bcell F8).1 _ _ (cell_lt r0)).trans r1
            have R2 := ((bcell F8).1 _ _ (cell_lt r0)).trans r2
            have RF := fun i => ((bcell F8).2 _ i (cell_lt r0)).trans (rf i)
            clear hW8 p0 p1 p2 p3 q0 q1 q2 q3
            go_wp2
            obtain ⟨W, hW, f0, f1, f2, fb⟩ := fin_set (a := .int .i64 0) (b := .slice none 0 0) (c := .slice none 0 0) (on1 (on1 B3.out HB6.out) F8) (Nat.le_refl _) R0 R1 R2
            rw [← hW]
            exact bodyPost_ret (v := .tuple #[.agg #[.int .i64 0, .slice none 0 0, .slice none 0 0], .int .i64 14]) (by simp [results, Tryz.results20, go_sem, f0, f1, f2]) rfl (GetPost.no (i := i) HYS.out HCS.out (by omega) hr fb)
          · obtain ⟨W8, hW8, F8, -, -, -, -⟩ := set4 (a := .int .u8 0) (b := .int .u8 0) (c := .int .u8 0) (d := .int .u8 0) L7 (Nat.le_refl _) a0 a1 a2 a3
            rw [← hW8]
            have R0 := ((bcell F8).1 _ _ (cell_lt r0)).trans r0
            have R1 := ((bcell F8).1 _ _ (cell_lt r0)).trans r1
            have R2 := ((bcell F8).1 _ _ (cell_lt r0)).trans r2
            have RF := fun i => ((bcell F8).2 _ i (cell_lt r0)).trans (rf i)
            clear hW8 p0 p1 p2 p3 q0 q1 q2 q3 a0 a1 a2 a3
            go_wp2
            obtain ⟨W, hW, f0, f1, f2, fb⟩ := fin_set (a := .int .i64 0) (b := .slice none 0 0) (c := .slice none 0 0) (on1 (on1 B3.out HB6.out) F8) (Nat.le_refl _) R0 R1 R2
            rw [← hW]
            exact bodyPost_ret (v := .tuple #[.agg #[.int .i64 0, .slice none 0 0, .slice none 0 0], .int .i64 14]) (by simp [results, Tryz.results20, go_sem, f0, f1, f2]) rfl (GetPost.no (i := i) HYS.out HCS.out (by omega) hr fb)
        | true =>
          have cG : ∀ W, Env W → _ := fun W hW => iGet_yes (w := W) hW y0 y1 y2 y3 hr
          generalize cs.getD (4 * i) 0 = z0 at *
          generalize cs.getD (4 * i + 1) 0 = z1 at *
          generalize cs.getD (4 * i + 2) 0 = z2 at *
          generalize cs.getD (4 * i + 3) 0 = z3 at *
          go_wp2
          go_region_held3 (fun w' => w'.cell? ⟨b, o, none⟩ = some (.int .u8 z0) ∧ w'.cell? ⟨b, o + 1, none⟩ = some (.int .u8 z1) ∧ w'.cell? ⟨b, o + 2, none⟩ = some (.int .u8 z2) ∧ w'.cell? ⟨b, o + 3, none⟩ = some (.int .u8 z3)) (go_keep) (first
            | (go_at_call 66; (with_reducible refine (cG wr.drew hEr).mono ?_); rintro e w7 ⟨rfl, hb7⟩; have L7 := drew_one hb7; have p0 := ((bcell L7).1 _ _ lbw).trans q0; have p1 := ((bcell L7).1 _ _ lbw).trans q1; have p2 := ((bcell L7).1 _ _ lbw).trans q2; have p3 := ((bcell L7).1 _ _ lbw).trans q3)
            | (go_at_call 66; (with_reducible refine (cG (wr.alloc _).drew (hEq _)).mono ?_); rintro e w7 ⟨rfl, hb7⟩; obtain ⟨L7, a0, a1, a2, a3, af⟩ := drew_two hb7; have p0 := ((bcell L7).1 _ _ lbw).trans q0; have p1 := ((bcell L7).1 _ _ lbw).trans q1; have p2 := ((bcell L7).1 _ _ lbw).trans q2; have p3 := ((bcell L7).1 _ _ lbw).trans q3))
          · obtain ⟨W8, hW8, F8, x0, x1, x2, x3⟩ := new4 (a := .int .u8 z0) (b := .int .u8 z1) (c := .int .u8 z2) (d := .int .u8 z3) (t := 64) L7
            rw [← hW8]
            have t2 := ((bcell F8).1 _ _ (cell_lt m0)).trans m2
            have OC8 := owns_below HI.out.oc F8
            have OD8 := owns_below HI.out.od F8
            have G8 : Hid (GSt W8 w.heap.size w1.heap.size w3.heap.size n d k (.slice dp d dcp) (.slice cp i cc)) := HI.out.g.keep F8 (cell_lt m0)
            have hz8 : W4.heap.size ≤ W8.heap.size := Nat.le_trans HI.out.z F8.size
            clear hW8 p0 p1 p2 p3 q0 q1 q2 q3 r0 r1 r2 rf m0 m1 m2 L7
            go_wp2_with (at_builtin; refine wpList_moreI rfl (.tmp 73) (.tmp 75) rfl (t := i + 1) (zs := [z0, z1, z2, z3]) rfl rfl (owns_below OC8 (alloc_below _ _)) (Src.four _ _ _ _ _ _) rfl rfl (by omega) (by rw [alloc_size]; omega) ?_; intro p9 c9 w9 O9 G9; have L9 : Below W4.heap.size W8 w9 := (((alloc_below W8 _).mono hz8).trans (own_grown (owns_below OC8 (alloc_below _ _)) G9.out (by rw [alloc_size]; omega))); have H9 : Hid (GSt w9 w.heap.size w1.heap.size w3.heap.size n d k (.slice dp d dcp) (.slice cp i cc)) := (G8.out.keep L9 z4); have u2 : w9.cell? ⟨w3.heap.size, 2, none⟩ = some (.slice cp i cc) := (cell_of H9.out.m); have uf : w9.frozen? ⟨w3.heap.size, 2, none⟩ = false := (free_of H9.out.m 2))
            go_roundg g
            case measure => omega
            case rel =>
              refine ⟨i + 1, o4, c3 - 4, c9, p9, by omega, by rw [show m - 4 = 4 * g by have := HM.out; omega], ⟨by have := HCP.out; omega, HS4.out, H9.out.setC _, ?_, ?_, by rw [setCell_size]; exact Nat.le_trans hz8 L9.size, ?_⟩, ?_⟩
              · refine owns_buts (l := [w3.heap.size]) (owns_apart (owns_below OD8 (alloc_below _ _)) (owns_below OC8 (alloc_below _ _)) (by decide) G9.out) (Buts.cell _ _ _ _) fun q hq => ?_
                have := (OD8.lt q hq).1
                simp; omega
              · have h9 := O9.out
                rw [HT.out] at h9
                refine owns_buts (l := [w3.heap.size]) h9 (Buts.cell _ _ _ _) fun q hq => ?_
                have := (h9.lt q hq).1
                simp; omega
              · intro j hj
                rcases Nat.lt_or_ge j i with h | h
                · exact HI.out.may j h
                · obtain rfl : j = i := by omega
                  exact hr
              · exact (((HB6.out.trans (F8.mono HB6.out.size)).trans (L9.mono (by omega))).setCell (Nat.le_refl _) _)
          · obtain ⟨W8, hW8, F8, x0, x1, x2, x3⟩ := set4 (a := .int .u8 z0) (b := .int .u8 z1) (c := .int .u8 z2) (d := .int .u8 z3) L7 (Nat.le_refl _) a0 a1 a2 a3
            rw [← hW8]
            have t2 := ((bcell F8).1 _ _ (cell_lt m0)).trans m2
            have OC8 := owns_below HI.out.oc F8
            have OD8 := owns_below HI.out.od F8
            have G8 : Hid (GSt W8 w.heap.size w1.heap.size w3.heap.size n d k (.slice dp d dcp) (.slice cp i cc)) := HI.out.g.keep F8 (cell_lt m0)
            have hz8 : W4.heap.size ≤ W8.heap.size := Nat.le_trans HI.out.z F8.size
            clear hW8 p0 p1 p2 p3 q0 q1 q2 q3 a0 a1 a2 a3 r0 r1 r2 rf m0 m1 m2 L7
            go_wp2_with (at_builtin; refine wpList_moreI rfl (.tmp 73) (.tmp 75) rfl (t := i + 1) (zs := [z0, z1, z2, z3]) rfl rfl (owns_below OC8 (alloc_below _ _)) (Src.four _ _ _ _ _ _) rfl rfl (by omega) (by rw [alloc_size]; omega) ?_; intro p9 c9 w9 O9 G9; have L9 : Below W4.heap.size W8 w9 := (((alloc_below W8 _).mono hz8).trans (own_grown (owns_below OC8 (alloc_below _ _)) G9.out (by rw [alloc_size]; omega))); have H9 : Hid (GSt w9 w.heap.size w1.heap.size w3.heap.size n d k (.slice dp d dcp) (.slice cp i cc)) := (G8.out.keep L9 z4); have u2 : w9.cell? ⟨w3.heap.size, 2, none⟩ = some (.slice cp i cc) := (cell_of H9.out.m); have uf : w9.frozen? ⟨w3.heap.size, 2, none⟩ = false := (free_of H9.out.m 2))
            go_roundg g
            case measure => omega
            case rel =>
              refine ⟨i + 1, o4, c3 - 4, c9, p9, by omega, by rw [show m - 4 = 4 * g by have := HM.out; omega], ⟨by have := HCP.out; omega, HS4.out, H9.out.setC _, ?_, ?_, by rw [setCell_size]; exact Nat.le_trans hz8 L9.size, ?_⟩, ?_⟩
              · refine owns_buts (l := [w3.heap.size]) (owns_apart (owns_below OD8 (alloc_below _ _)) (owns_below OC8 (alloc_below _ _)) (by decide) G9.out) (Buts.cell _ _ _ _) fun q hq => ?_
                have := (OD8.lt q hq).1
                simp; omega
              · have h9 := O9.out
                rw [HT.out] at h9
                refine owns_buts (l := [w3.heap.size]) h9 (Buts.cell _ _ _ _) fun q hq => ?_
                have := (h9.lt q hq).1
                simp; omega
              · intro j hj
                rcases Nat.lt_or_ge j i with h | h
                · exact HI.out.may j h
                · obtain rfl : j = i := by omega
                  exact hr
              · exact (((HB6.out.trans (F8.mono HB6.out.size)).trans (L9.mono (by omega))).setCell (Nat.le_refl _) _)
end Go.Proofs.YtcjghnnliepjjaaGreatDoor
