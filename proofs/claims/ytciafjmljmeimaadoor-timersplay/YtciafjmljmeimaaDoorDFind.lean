/- A chain: who is there, and where. -/
import Derived.Test.YtciafjmljmeimaaDoorDSeq
namespace Go.Proofs.YtciafjmljmeimaaDoor
open Go Go.RowKit Go.Shelf
attribute [local go_sem] Oper.semAt_some
set_option maxRecDepth 100000
set_option linter.unusedVariables false
set_option linter.unusedSimpArgs false
/-- ticks that may be left -/
def Bnd (xs : List (Int × Int)) : Prop := ∀ x ∈ xs, 0 ≤ x.2 ∧ x.2 ≤ 1073741824
/-- the ticks left of the one ahead of a place -/
def lf (xs : List (Int × Int)) (k : Nat) : Int := lst 0 (xs.take k)
theorem lf_zero (xs : List (Int × Int)) : lf xs 0 = 0 := by simp [lf, lst]
theorem lf_succ {xs : List (Int × Int)} {k : Nat} (h : k < xs.length) : lf xs (k + 1) = (xs.getD k (0, 0)).2 := lst_take xs 0 k h
theorem lf_bnd {xs : List (Int × Int)} (hb : Bnd xs) {k : Nat} (h : k ≤ xs.length) : 0 ≤ lf xs k ∧ lf xs k ≤ 1073741824 := by
  cases k with
  | zero => rw [lf_zero]; omega
  | succ k => rw [lf_succ (by omega)]; exact hb _ (getD_mem (by omega))
/-- the ticks behind the one ahead -/
def bh (xs : List (Int × Int)) (k : Nat) : Int := lf xs (k + 1) - lf xs k
theorem lf_wrap {xs : List (Int × Int)} (hb : Bnd xs) {k : Nat} (h : k < xs.length) : IntKind.i64.wrap (lf xs k + bh xs k) = lf xs (k + 1) := by
  have h1 := lf_bnd hb (k := k) (by omega)
  have h2 := lf_bnd hb (k := k + 1) (by omega)
  unfold bh
  rw [IntKind.wrap_i64]
  omega
theorem dl_getD {xs : List (Int × Int)} {k : Nat} (h : k < xs.length) : (dl 0 xs).getD k (0, 0) = ((xs.getD k (0, 0)).1, bh xs k) := by
  rw [List.getD_eq_getElem?_getD, dl_at xs 0 k h]
  simp only [Option.getD_some, bh, lf_succ h]
  rfl
/-- what is read of a chain -/
theorem Ch.seq {B : Nat} {w : World} {p : Nat} {v : Value} {xs : List (Int × Int)} (h : Ch B w p v (dl 0 xs)) :
    ∃ sp g cap, v = .slice sp xs.length cap ∧ (0 < xs.length → sp = some ⟨g, 0, none⟩) ∧ (g = p ∨ v.ownBlock = some g) ∧ g < w.heap.size ∧
      ∀ k, k < xs.length → w.cell? ⟨g, k * 2, none⟩ = some (.int .i64 (xs.getD k (0, 0)).1) ∧ w.cell? ⟨g, k * 2 + 1, none⟩ = some (.int .i64 (bh xs k)) := by
  have hl := dl_len xs 0
  by_cases h0 : 0 < xs.length
  · obtain ⟨g, cap, rfl, _⟩ := h.own.spot (by omega)
    rw [hl]
    refine ⟨_, g, cap, rfl, fun _ => rfl, Or.inr rfl, (h.own.lt' (g := g) rfl).2, fun k hk => ?_⟩
    have := h.own.cells rfl k (by omega)
    rw [dl_getD hk] at this
    exact this
  · obtain ⟨sp, cap, rfl, _⟩ := h.own.form
    rw [hl]
    exact ⟨sp, p, cap, rfl, fun h => absurd h h0, Or.inl rfl, at_lt h.head, fun k hk => by omega⟩
theorem pre_snoc {m : Nat} {pre : List (Fin m)} {x : Fin m} (h : pre ++ [x] <+: List.finRange m) : pre = (List.finRange m).take x.val := by
  have hl := h.length_le
  have hp : pre.length < m := by simp at hl; omega
  have e := List.prefix_iff_eq_take.1 h
  rw [List.length_append, List.length_singleton, fin_snoc hp] at e
  have e2 := List.append_inj' e rfl
  have hx : x = ⟨pre.length, hp⟩ := by simpa using e2.2
  rw [hx]
  exact e2.1
theorem mem_take_fin {m k : Nat} (x : Fin m) : x ∈ (List.finRange m).take k ↔ x.val < k := by
  rw [List.mem_take_iff_getElem]
  constructor
  · rintro ⟨j, hj, e⟩
    have hj' : j < k := by omega
    rw [List.getElem_finRange] at e
    rw [← e]
    simpa using hj'
  · intro hx
    exact ⟨x.val, by have := x.isLt; simp; omega, by simp⟩
/-- the variables of the search -/
def FB (W : World) (t p : Nat) (who a b : Int) (c : Bool) : Prop :=
  Boxed W t 131 (.pointer (some ⟨p, 1, none⟩)) ∧ Boxed W (t + 1) 3 (.int .i64 who) ∧ Boxed W (t + 1 + 1) 3 (.int .i64 a) ∧ Boxed W (t + 1 + 1 + 1) 2 (.int .i64 b) ∧ Boxed W (t + 1 + 1 + 1 + 1) 4 (.bool c)
theorem FB.keep {W W' : World} {t p : Nat} {who a b : Int} {c : Bool} (h : FB W t p who a b c) (hk : ∀ (k : Nat) (cs : Array Value) (t : TypeId) (f : Nat × Nat), W.heap[k]? = some (Obj.cells cs t f) → W'.heap[k]? = some (Obj.cells cs t f)) : FB W' t p who a b c :=
  ⟨hk _ _ _ _ h.1, hk _ _ _ _ h.2.1, hk _ _ _ _ h.2.2.1, hk _ _ _ _ h.2.2.2.1, hk _ _ _ _ h.2.2.2.2⟩
theorem Boxed.other {W : World} {b k : Nat} {t : TypeId} {v u : Value} (h : Boxed W b t v) (hne : b ≠ k) : Boxed (W.setCell ⟨k, 0, none⟩ u) b t v := (Below.heap_setCell _ _ _ _ hne).trans h
theorem FB.put {W : World} {t p : Nat} {who a b : Int} {c : Bool} (h : FB W t p who a b c) (nq : Nat) (a' b' : Int) (c' : Bool) : FB ((((W.drewN nq).setCell ⟨t + 1 + 1, 0, none⟩ (.int .i64 a')).setCell ⟨t + 1 + 1 + 1, 0, none⟩ (.int .i64 b')).setCell ⟨t + 1 + 1 + 1 + 1, 0, none⟩ (.bool c')) t p who a' b' c' := by
  obtain ⟨b0, b1, b2, b3, b4⟩ := h
  have e := heap_drewN W nq
  have b0' : Boxed (W.drewN nq) t 131 (.pointer (some ⟨p, 1, none⟩)) := by unfold Boxed; rw [e]; exact b0
  have b1' : Boxed (W.drewN nq) (t + 1) 3 (.int .i64 who) := by unfold Boxed; rw [e]; exact b1
  have b2' : Boxed (W.drewN nq) (t + 1 + 1) 3 (.int .i64 a) := by unfold Boxed; rw [e]; exact b2
  have b3' : Boxed (W.drewN nq) (t + 1 + 1 + 1) 2 (.int .i64 b) := by unfold Boxed; rw [e]; exact b3
  have b4' : Boxed (W.drewN nq) (t + 1 + 1 + 1 + 1) 4 (.bool c) := by unfold Boxed; rw [e]; exact b4
  exact ⟨Boxed.other (Boxed.other (Boxed.other b0' (by omega)) (by omega)) (by omega), Boxed.other (Boxed.other (Boxed.other b1' (by omega)) (by omega)) (by omega), Boxed.other (Boxed.other (Boxed.set _ b2') (by omega)) (by omega), Boxed.other (Boxed.set _ (Boxed.other b3' (by omega))) (by omega), Boxed.set _ (Boxed.other (Boxed.other b4' (by omega)) (by omega))⟩
theorem FB.drewN {W : World} {t p : Nat} {who a b : Int} {c : Bool} (h : FB W t p who a b c) (nq : Nat) : FB (W.drewN nq) t p who a b c := h.keep (fun k cs t f hk => by rw [heap_drewN]; exact hk)
theorem six (w : World) (v0 v1 v2 v3 v4 v5 : Value) (t0 t1 t2 t3 t4 t5 : TypeId) {t : Nat} (ht : w.heap.size = t) {W : World} (hW : ((((((w.alloc (Obj.cells #[v0] t0)).alloc (Obj.cells #[v1] t1)).alloc (Obj.cells #[v2] t2)).alloc (Obj.cells #[v3] t3)).alloc (Obj.cells #[v4] t4)).alloc (Obj.cells #[v5] t5)) = W) :
    Boxed W t t0 v0 ∧ Boxed W (t + 1) t1 v1 ∧ Boxed W (t + 1 + 1) t2 v2 ∧ Boxed W (t + 1 + 1 + 1) t3 v3 ∧ Boxed W (t + 1 + 1 + 1 + 1) t4 v4 ∧ Boxed W (t + 1 + 1 + 1 + 1 + 1) t5 v5 ∧ Below t w W ∧ W.heap.size = t + 1 + 1 + 1 + 1 + 1 + 1 := by
  subst ht
  subst hW
  refine ⟨?_, ?_, ?_, ?_, ?_, ?_, ?_, ?_⟩
  · exact (((((Boxed.new w t0 v0).alloc _).alloc _).alloc _).alloc _).alloc _
  · have := ((((Boxed.new (w.alloc (Obj.cells #[v0] t0)) t1 v1).alloc (Obj.cells #[v2] t2)).alloc (Obj.cells #[v3] t3)).alloc (Obj.cells #[v4] t4)).alloc (Obj.cells #[v5] t5)
    simpa using this
  · have := (((Boxed.new ((w.alloc (Obj.cells #[v0] t0)).alloc (Obj.cells #[v1] t1)) t2 v2).alloc (Obj.cells #[v3] t3)).alloc (Obj.cells #[v4] t4)).alloc (Obj.cells #[v5] t5)
    simpa using this
  · have := ((Boxed.new (((w.alloc (Obj.cells #[v0] t0)).alloc (Obj.cells #[v1] t1)).alloc (Obj.cells #[v2] t2)) t3 v3).alloc (Obj.cells #[v4] t4)).alloc (Obj.cells #[v5] t5)
    simpa using this
  · have := (Boxed.new ((((w.alloc (Obj.cells #[v0] t0)).alloc (Obj.cells #[v1] t1)).alloc (Obj.cells #[v2] t2)).alloc (Obj.cells #[v3] t3)) t4 v4).alloc (Obj.cells #[v5] t5)
    simpa using this
  · have := Boxed.new (((((w.alloc (Obj.cells #[v0] t0)).alloc (Obj.cells #[v1] t1)).alloc (Obj.cells #[v2] t2)).alloc (Obj.cells #[v3] t3)).alloc (Obj.cells #[v4] t4)) t5 v5
    simpa using this
  · exact (((((((Below.refl _ w).alloc (Nat.le_refl _) _).alloc (by simp) _).alloc (by simp; omega) _).alloc (by simp; omega) _).alloc (by simp; omega) _).alloc (by simp; omega) _)
  · simp
theorem find_results {W : World} {t p : Nat} {who a b : Int} {c : Bool} (h : FB W t p who a b c) (tmps : Array Value) (h4 : tmps.getD 4 undef = .pointer (some ⟨t + 1 + 1, 0, none⟩)) (h5 : tmps.getD 5 undef = .pointer (some ⟨t + 1 + 1 + 1, 0, none⟩)) (h6 : tmps.getD 6 undef = .pointer (some ⟨t + 1 + 1 + 1 + 1, 0, none⟩)) :
    (results Tryd.f74 tmps).run Tryd.prog W = .ok (.tuple #[.int .i64 a, .int .i64 b, .bool c]) W := by
  have hr : Tryd.f74.results = #[.cell 4 3, .cell 5 2, .cell 6 4] := rfl
  have c2 := h.2.2.1.cell
  have c3 := h.2.2.2.1.cell
  have c4 := h.2.2.2.2.cell
  rw [Array.getD_eq_getD_getElem?] at h4 h5 h6
  simp [results, hr, h4, h5, h6, go_sem, c2, c3, c4]
set_option maxHeartbeats 4000000 in
theorem find_any {B : Nat} {w : World} {p : Nat} {v : Value} {xs : List (Int × Int)} (h : Ch B w p v (dl 0 xs)) (hb : Bnd xs) (hl : xs.length ≤ 1000) (who : Int) :
    Calls Tryd.prog 74 #[.pointer (some ⟨p, 1, none⟩), .int .i64 who] w fun e w' => ((∃ k : Nat, k < xs.length ∧ (xs.getD k (0, 0)).1 = who ∧ e = .returned (.tuple #[.int .i64 (k : Int), .int .i64 (lf xs (k + 1)), .bool true])) ∨ ((∀ k, k < xs.length → (xs.getD k (0, 0)).1 ≠ who) ∧ e = .returned (.tuple #[.int .i64 0, .int .i64 0, .bool false]))) ∧ Below w.heap.size w w' := by
  obtain ⟨sp, g, cap, hv, hsp, hgp, hgl, hcs⟩ := h.seq
  have hpl := at_lt h.head
  have hlk := h.lnk
  rw [hv] at hlk
  have HF : Hid (∀ k, k < xs.length → IntKind.i64.wrap (lf xs k + bh xs k) = lf xs (k + 1)) := fun k hk => lf_wrap hb hk
  clear h hv hgp hb
  obtain ⟨m, hm⟩ : ∃ m, xs.length = m := ⟨_, rfl⟩
  rw [hm] at hlk hcs HF hsp hl ⊢
  clear hm
  obtain ⟨f, hf⟩ : ∃ f : Nat → Int, f = fun k => (xs.getD k (0, 0)).1 := ⟨_, rfl⟩
  have HFF : Hid (f = fun k => (xs.getD k (0, 0)).1) := hf
  have hcs' : ∀ k, k < m → w.cell? ⟨g, k * 2, none⟩ = some (.int .i64 (f k)) ∧ w.cell? ⟨g, k * 2 + 1, none⟩ = some (.int .i64 (bh xs k)) := by rw [hf]; exact hcs
  suffices hS : Calls Tryd.prog 74 #[.pointer (some ⟨p, 1, none⟩), .int .i64 who] w fun e w' => ((∃ k : Nat, k < m ∧ f k = who ∧ e = .returned (.tuple #[.int .i64 (k : Int), .int .i64 (lf xs (k + 1)), .bool true])) ∨ ((∀ k, k < m → f k ≠ who) ∧ e = .returned (.tuple #[.int .i64 0, .int .i64 0, .bool false]))) ∧ Below w.heap.size w w' by
    rw [hf] at hS
    exact hS
  clear hcs hf HFF
  obtain ⟨F, hFe⟩ : ∃ F : Nat → Int, F = lf xs := ⟨_, rfl⟩
  have hF0 : F 0 = 0 := by rw [hFe]; exact lf_zero xs
  rw [← hFe] at HF ⊢
  generalize bh xs = bd at HF hcs'
  clear hFe
  refine (callsIn_wide (n := 3)).1 ?_
  refine callsIn_of_wp_marks Tryd.func74 rfl trivial ?_ rfl
  simp only [Tryd.ntmps74, List.size_toArray, List.length_cons, List.length_nil, Nat.reduceAdd, Nat.reduceSub, Array.replicate_succ, Array.replicate_zero, List.push_toArray, List.append_toArray, List.nil_append, List.cons_append]
  gi_wp2_with (refine ⟨trivial, ?_⟩; gi_at_call 75; refine (callsIn_wide.2 (lefts_any p _)).mono ?_; rintro e w' ⟨rfl, rfl⟩)
  obtain ⟨t, ht⟩ : ∃ t, w.heap.size = t := ⟨_, rfl⟩
  rw [ht] at hgl hpl ⊢
  generalize hW0 : ((((((w.alloc (Obj.cells #[Value.pointer (some ⟨p, 1, none⟩)] 131)).alloc (Obj.cells #[Value.int IntKind.i64 who] 3)).alloc (Obj.cells #[Value.int IntKind.i64 0] 3)).alloc (Obj.cells #[Value.int IntKind.i64 0] 2)).alloc (Obj.cells #[Value.bool false] 4)).alloc (Obj.cells #[Value.pointer (some ⟨p, 1, none⟩)] 131)) = W0
  obtain ⟨x0, x1, x2, x3, x4, x5, hB0, hsz⟩ := six w _ _ _ _ _ _ _ _ _ _ _ _ ht hW0
  clear hW0
  have hlk0 := (hB0.cell (p := ⟨p, 1, none⟩) hpl).trans hlk
  have hcs0 : ∀ k, k < m → W0.cell? ⟨g, k * 2 + 1, none⟩ = some (.int .i64 (bd k)) := fun k hk => (hB0.cell (p := ⟨g, k * 2 + 1, none⟩) hgl).trans (hcs' k hk).2
  refine wpIn_rangeFunc_ownG rfl (by omega) (gf := 80) (lb := #[.pointer (some ⟨t + 1 + 1 + 1 + 1 + 1, 0, none⟩)]) rfl trivial (enters_of Tryd.func80 (by kernel_rfl) rfl)
    (seq_stops _ (by omega) (t + 1 + 1 + 1 + 1 + 1) p g m cap sp hsp hl F bd hF0 HF.out W0 (by omega) (by omega) (fun _ => by omega) x5.cell hlk0 hcs0) Kp.trans (kp_b (by simp; omega)) (Below.refl _ _) (fun _ => rfl)
    (fun pre W => FB W t p who 0 0 false ∧ (∀ x ∈ pre, f x.val ≠ who) ∧ Below t w W)
    (fun c pre W => c = .ret ∧ ∃ pre' x, pre = pre' ++ [x] ∧ f x.val = who ∧ FB W t p who (x.val : Nat) (F (x.val + 1)) true ∧ Below t w W)
    (ownFrom_of fun s W W' hs hk hB => ⟨hs.1.keep hk, hs.2.1, hs.2.2.trans (hB t (by omega) (by have := hs.2.2.size; omega))⟩)
    (fun c => ownFrom_of fun s W W' hs hk hB => by
      obtain ⟨hc, pre', x, hp, hf, hfb, hb⟩ := hs
      exact ⟨hc, pre', x, hp, hf, hfb.keep hk, hb.trans (hB t (by omega) (by have := hb.size; omega))⟩)
    ⟨⟨x0, x1, x2, x3, x4⟩, by simp, hB0⟩
    (fun x => { tmps := #[.pointer (some ⟨p, 1, none⟩), .int .i64 who, .pointer (some ⟨t, 0, none⟩), .pointer (some ⟨t + 1, 0, none⟩), .pointer (some ⟨t + 1 + 1, 0, none⟩), .pointer (some ⟨t + 1 + 1 + 1, 0, none⟩), .pointer (some ⟨t + 1 + 1 + 1 + 1, 0, none⟩), .int .i64 ((x.val : Nat) : Int), .int .i64 (F (x.val + 1)), .pointer (some ⟨p, 1, none⟩), .func (.func 80) #[] #[.pointer (some ⟨t + 1 + 1 + 1 + 1 + 1, 0, none⟩)], .int .i64 ((x.val : Nat) : Int), .int .i64 (F (x.val + 1)), undef, undef, undef, undef, undef, undef, undef, undef, undef, undef, undef, undef], defers := [] }) ?assign ?body ?done ?stop
  case assign =>
    intro l x W K hK
    gi_wp2
    exact hK
  case body =>
    rintro l pre x W ⟨⟨b0, b1, b2, b3, b4⟩, hne, hB⟩ hlt
    have hm0 : 0 < m := by have := x.isLt; omega
    have hsp' := hsp hm0
    subst hsp'
    have HFB : Hid (FB W t p who 0 0 false) := ⟨b0, b1, b2, b3, b4⟩
    have c0 := b0.cell
    have c1 := b1.cell
    have e1 := (hB.cell (p := ⟨p, 1, none⟩) hpl).trans hlk
    have e2 := (hB.cell (p := ⟨g, x.val * 2, none⟩) hgl).trans (hcs' x.val x.isLt).1
    have hxm : ((x.val : Nat) : Int) < m := by have := x.isLt; omega
    have hmx : Tryd.prog.follows .mixedOrders = true := by kernel_rfl
    have HNE : Hid (∀ x ∈ pre, f x.val ≠ who) := hne
    have HB : Hid (Below t w W) := hB
    have d2 := b2.cell
    have d3 := b3.cell
    have d4 := b4.cell
    have g2 := b2.frozen
    have g3 := b3.frozen
    have g4 := b4.frozen
    have HBX : Hid (Boxed W (t + 1 + 1) 3 (.int .i64 0) ∧ Boxed W (t + 1 + 1 + 1) 2 (.int .i64 0) ∧ Boxed W (t + 1 + 1 + 1 + 1) 4 (.bool false)) := ⟨b2, b3, b4⟩
    clear hne hB b0 b1 b2 b3 b4 hcs' hcs0 hlk0 hlk x0 x1 x2 x3 x4 x5 hB0 hF0 HF hsz hsp hl hm0 hlt hgl hpl
    gi_wp2
    refine region_quiet_round (by intro i o ho c; rcases i with _ | _ | _ | _ | _ | _ | _ | _ | _ | _ | i <;> (try (cases ho; exact (fun h => by cases h))); simp at ho) hmx (by kernel_rfl) ?_
    repeat (quiet_step_in (fail))
    refine wpQuietIn_nil ?_
    intro _ hw'
    obtain ⟨nq, hw''⟩ := hw'
    subst hw''
    gi_wp2
    · have hw : f x.val = who := by
        have := ‹(f x.val == who) = true›
        simpa using this
      exact ⟨(((keeps_drewN W nq).trans (KeepsOthers.setCell _ _ _)).trans (KeepsOthers.setCell _ _ _)).trans (KeepsOthers.setCell _ _ _) |>.from _, rfl, pre, x, rfl, hw, HFB.out.put nq _ _ _,
        (((HB.out.trans ((below_drewN W nq).mono (by have := HB.out.size; omega))).setCell (p := ⟨t + 1 + 1, 0, none⟩) (by simp; omega) _).setCell (p := ⟨t + 1 + 1 + 1, 0, none⟩) (by simp; omega) _).setCell (p := ⟨t + 1 + 1 + 1 + 1, 0, none⟩) (by simp; omega) _⟩
    · have hw : f x.val ≠ who := by
        have := ‹(f x.val == who) = false›
        simpa using this
      exact ⟨(keeps_drewN W nq).from _, fun k _ => by rw [heap_drewN], HFB.out.drewN nq, fun y hy => by
        rcases List.mem_append.1 hy with hy | hy
        · exact HNE.out y hy
        · have : y = x := by simpa using hy
          rw [this]; exact hw, HB.out.trans ((below_drewN W nq).mono (by have := HB.out.size; omega))⟩
  case done =>
    rintro D ys W hD rfl ⟨⟨b0, b1, b2, b3, b4⟩, hne, hB⟩ hK
    have d2 := b2.cell
    have d3 := b3.cell
    have d4 := b4.cell
    have g2 := b2.frozen
    have g3 := b3.frozen
    have g4 := b4.frozen
    have HK : Hid (W.heap[D]? = some (.deferred (some []))) := hK
    have HB : Hid (Below t w W) := hB
    have HNE : Hid (∀ k, k < m → f k ≠ who) := fun k hk => hne ⟨k, hk⟩ (List.mem_finRange _)
    clear hcs' hcs0 hlk0 hlk x0 x1 x2 x3 x4 x5 hB0 hF0 HF hsp hne hK
    gi_wp2
    have hK2 : (((W.setCell ⟨t + 1 + 1, 0, none⟩ (.int .i64 0)).setCell ⟨t + 1 + 1 + 1, 0, none⟩ (.int .i64 0)).setCell ⟨t + 1 + 1 + 1 + 1, 0, none⟩ (.bool false)).heap[D]? = some (.deferred (some [])) :=
      (((KeepsOthers.setCell _ _ _).trans (KeepsOthers.setCell _ _ _)).trans (KeepsOthers.setCell _ _ _)).same D _ HK.out rfl
    refine ⟨by simp, .inl ⟨_, _, rfl, run_takeDeferred hK2, ?_⟩⟩
    have hfb : FB (((W.setCell ⟨t + 1 + 1, 0, none⟩ (.int .i64 0)).setCell ⟨t + 1 + 1 + 1, 0, none⟩ (.int .i64 0)).setCell ⟨t + 1 + 1 + 1 + 1, 0, none⟩ (.bool false)) t p who 0 0 false := FB.put (W := W) ⟨b0, b1, b2, b3, b4⟩ 0 0 0 false
    have hbw : Below t w (((W.setCell ⟨t + 1 + 1, 0, none⟩ (.int .i64 0)).setCell ⟨t + 1 + 1 + 1, 0, none⟩ (.int .i64 0)).setCell ⟨t + 1 + 1 + 1 + 1, 0, none⟩ (.bool false)) := ((HB.out.setCell (p := ⟨t + 1 + 1, 0, none⟩) (by simp; omega) _).setCell (p := ⟨t + 1 + 1 + 1, 0, none⟩) (by simp; omega) _).setCell (p := ⟨t + 1 + 1 + 1 + 1, 0, none⟩) (by simp; omega) _
    generalize ((W.setCell ⟨t + 1 + 1, 0, none⟩ (.int .i64 0)).setCell ⟨t + 1 + 1 + 1, 0, none⟩ (.int .i64 0)).setCell ⟨t + 1 + 1 + 1 + 1, 0, none⟩ (.bool false) = W2 at hK2 hfb hbw
    refine ⟨_, find_results (hfb.keep (W' := W2.putObj D (.deferred none)) (fun k cs ty f hk => (World.putObj_heap_other (fun e => by rw [e, hK2] at hk; cases hk)).trans hk)) _ rfl rfl rfl, .inr ⟨HNE.out, rfl⟩, ?_⟩
    rw [ht]
    exact hbw.trans (belowK_b (w := W0) (by omega) W2 D _ _ hD hK2 rfl rfl)
  case stop =>
    rintro D c pre W hD hpre ⟨rfl, pre', x, rfl, hx, ⟨b0, b1, b2, b3, b4⟩, hB⟩ hK
    have d2 := b2.cell
    have d3 := b3.cell
    have d4 := b4.cell
    clear hcs' hcs0 hlk0 hlk x0 x1 x2 x3 x4 x5 hB0 hF0 HF hsp
    gi_wp2
    refine ⟨by simp, .inl ⟨_, _, rfl, run_takeDeferred hK, ?_⟩⟩
    have hfb : FB W t p who (x.val : Nat) (F (x.val + 1)) true := ⟨b0, b1, b2, b3, b4⟩
    refine ⟨_, find_results (hfb.keep (W' := W.putObj D (.deferred none)) (fun k cs ty f hk => (World.putObj_heap_other (fun e => by rw [e, hK] at hk; cases hk)).trans hk)) _ rfl rfl rfl, .inl ⟨x.val, x.isLt, hx, rfl⟩, ?_⟩
    rw [ht]
    exact hB.trans (belowK_b (w := W0) (by omega) W D _ _ hD hK rfl rfl)
end Go.Proofs.YtciafjmljmeimaaDoor
