/- The document's own thing: how it is seen. -/
import Derived.Test.YteicnekoogmmmaaGreatDoorKM6
namespace Go.Proofs.YteicnekoogmmmaaGreatDoor
open Go Go.RowKit
set_option maxRecDepth 100000
set_option linter.unusedVariables false
/-- how the document's own thing is seen -/
def KSeen (k a b c o : Int) (xs zs : List Int) (w : World) (e : Ending) (w' : World) : Prop := ∃ s1 n1 c1 s2 n2 c2, e = .returned (.agg (seec k a b c o (.slice s1 n1 c1) (.slice s2 n2 c2))) ∧ (n1 = xs.length ∧ Src w' s1 xs) ∧ (n2 = zs.length ∧ Src w' s2 zs) ∧ Below w.heap.size w w'
theorem ten_cells {w : World} {B : Nat} {k a b c o : Int} {r os : Value} (h : Blk w B (seec k a b c o r os) 55) : w.cell? ⟨B, 0, none⟩ = some (.int .u32 0) ∧ w.cell? ⟨B, 1, none⟩ = some (.int .u8 k) ∧ w.cell? ⟨B, 2, none⟩ = some (.int .u32 a) ∧ w.cell? ⟨B, 3, none⟩ = some (.int .u32 b) ∧ w.cell? ⟨B, 4, none⟩ = some (.int .u32 c) ∧ w.cell? ⟨B, 5, none⟩ = some (.int .u32 o) ∧ w.cell? ⟨B, 6, none⟩ = some r ∧ w.cell? ⟨B, 7, none⟩ = some os ∧ w.cell? ⟨B, 8, none⟩ = some (.int .i64 0) ∧ w.cell? ⟨B, 9, none⟩ = some (.slice none 0 0) :=
  ⟨by rw [h.cell]; rfl, by rw [h.cell]; rfl, by rw [h.cell]; rfl, by rw [h.cell]; rfl, by rw [h.cell]; rfl, by rw [h.cell]; rfl, by rw [h.cell]; rfl, by rw [h.cell]; rfl, by rw [h.cell]; rfl, by rw [h.cell]; rfl⟩
theorem seec_c {w : World} {B : Nat} {k a b c o : Int} {r os : Value} (h : Blk w B (seec k a b c o r os) 55) (c' : Int) : Blk (w.setCell ⟨B, 4, none⟩ (.int .u32 c')) B (seec k a b c' o r os) 55 := h.set 4 _
theorem own_src {w : World} {B g m cap : Nat} {us : List Int} (h : w.ownsRow B 23 1 (.slice (some ⟨g, 0, none⟩) m cap) m (us.map (Value.int .u32))) (hm : us.length = m) : Src w (some ⟨g, 0, none⟩) us := fun _ => ⟨g, 0, rfl, fun i hi => by rw [Nat.zero_add, World.ownsRow.cellAt h i (by omega)]; exact wrd_at us i (by omega)⟩
theorem two_at0 (w : World) (cs : Array Value) (t : TypeId) (o : Obj) : Blk ((w.alloc (.cells cs t)).alloc o).drew w.heap.size cs t := Blk.below (alloc_at w _) (alloc_below (w.alloc (.cells cs t)) o).drew
theorem two_low (w : World) (o1 o2 : Obj) : Below w.heap.size w ((w.alloc o1).alloc o2).drew := ((alloc_below w o1).trans ((alloc_below _ o2).mono (alloc_below w o1).size)).drew
theorem src_none (w : World) : Src w none [] := fun h => absurd h (by simp)
set_option maxHeartbeats 8000000 in
theorem ksee_none {s : Nat} {w : World} {q z : Nat} {u v : Value} {T : Sx} (h : KR s w q z u v T) (hx : T.xs = []) (hz : T.zs = []) (hk : T.k ≠ 1 ∧ T.k ≠ 4) :
    Calls Tryz.prog 13 #[.pointer (some ⟨q, 0, none⟩)] w (KSeen T.k T.a T.b 0 T.o T.xs T.zs w) := by
  obtain rfl := h.emp hx
  obtain rfl := h.emz hz
  obtain ⟨c0, c1, c2, c3, c4, c5, c6⟩ := h.c
  have hlt := h.head.lt
  have QX : q ≠ w.heap.size := by omega
  have XQ : w.heap.size ≠ q := fun e => QX e.symm
  have QX1 : q ≠ w.heap.size + 1 := by omega
  have XQ1 : w.heap.size + 1 ≠ q := fun e => QX1 e.symm
  have k1 : (T.k == 1) = false := by simpa using hk.1
  have k4 : (T.k == 4) = false := by simpa using hk.2
  rw [hx, hz]
  clear h hk
  go_enter Tryz.func13, Tryz.ntmps13
  go_wp2
  go_region_held3 (fun w' => (w'.cell? ⟨q, 0, none⟩ = some (.int .u8 T.k) ∧ w'.cell? ⟨q, 1, none⟩ = some (.int .u32 T.a) ∧ w'.cell? ⟨q, 2, none⟩ = some (.int .u32 T.b)) ∧ w'.cell? ⟨q, 4, none⟩ = some (.int .u32 T.o) ∧ w'.cell? ⟨q, 5, none⟩ = some (.slice none 0 0) ∧ w'.cell? ⟨q, 6, none⟩ = some (.slice none 0 0)) (go_keep) (fail)
  all_goals
    go_wp2
    refine wp_loop_rounds 1 ?_
    rw [rounds_succ]
    go_wp2
    refine bodyPost_ret (results_cell_row (g := w.heap.size) rfl _ _ _ _ _ (d := _) rfl (two_at0 w (seec T.k T.a T.b (0) T.o (.slice none 0 0) (.slice none 0 0)) 55 _) Tryz.underlying55 rfl (by kernel_rfl)) rfl ?_
    exact ⟨none, 0, 0, none, 0, 0, rfl, ⟨rfl, src_none _⟩, ⟨rfl, src_none _⟩, two_low _ _ _⟩
set_option maxHeartbeats 8000000 in
theorem ksee_num {s : Nat} {w : World} {q z : Nat} {u v : Value} {T : Sx} (h : KR s w q z u v T) (hx : T.xs = []) (hz : T.zs = []) (hk : T.k = 1 ∨ T.k = 4) :
    Calls Tryz.prog 13 #[.pointer (some ⟨q, 0, none⟩)] w (KSeen T.k T.a T.b (T.n : Nat) T.o T.xs T.zs w) := by
  obtain rfl := h.emp hx
  obtain rfl := h.emz hz
  obtain ⟨c0, c1, c2, c3, c4, c5, c6⟩ := h.c
  have hlt := h.head.lt
  have QX : q ≠ w.heap.size := by omega
  have XQ : w.heap.size ≠ q := fun e => QX e.symm
  have QX1 : q ≠ w.heap.size + 1 := by omega
  have XQ1 : w.heap.size + 1 ≠ q := fun e => QX1 e.symm
  rw [hx, hz]
  have hkk : (T.k == 1) = true ∨ ((T.k == 1) = false ∧ (T.k == 4) = true) := by rcases hk with e | e <;> simp [e]
  clear h hk
  rcases hkk with k1 | ⟨k1, k4⟩
  all_goals
    go_enter Tryz.func13, Tryz.ntmps13
    go_wp2
    go_region_held3 (fun w' => (w'.cell? ⟨q, 0, none⟩ = some (.int .u8 T.k) ∧ w'.cell? ⟨q, 1, none⟩ = some (.int .u32 T.a) ∧ w'.cell? ⟨q, 2, none⟩ = some (.int .u32 T.b)) ∧ w'.cell? ⟨q, 4, none⟩ = some (.int .u32 T.o) ∧ w'.cell? ⟨q, 5, none⟩ = some (.slice none 0 0) ∧ w'.cell? ⟨q, 6, none⟩ = some (.slice none 0 0)) (go_keep) (fail)
    all_goals
      go_wp2
      refine wp_loop_rounds 1 ?_
      rw [rounds_succ]
      go_wp2
      refine bodyPost_ret (results_cell_row (g := w.heap.size) rfl _ _ _ _ _ (d := _) rfl (two_at0 w (seec T.k T.a T.b ((T.n : Nat)) T.o (.slice none 0 0) (.slice none 0 0)) 55 _) Tryz.underlying55 rfl (by kernel_rfl)) rfl ?_
      exact ⟨none, 0, 0, none, 0, 0, rfl, ⟨rfl, src_none _⟩, ⟨rfl, src_none _⟩, two_low _ _ _⟩
set_option maxHeartbeats 8000000 in
theorem ksee_row {s : Nat} {w : World} {q z : Nat} {u v : Value} {T : Sx} (h : KR s w q z u v T) (hx : T.xs ≠ []) (hz : T.zs = []) (hk : T.k = 3) (hl : T.xs.length ≤ 64) :
    Calls Tryz.prog 13 #[.pointer (some ⟨q, 0, none⟩)] w (KSeen T.k T.a T.b 0 T.o T.xs T.zs w) := by
  obtain rfl := h.emz hz
  have hr := h.row
  obtain ⟨xs, hxs⟩ : ∃ xs, T.xs = xs := ⟨_, rfl⟩
  rw [hxs] at hr hx hl ⊢
  obtain ⟨g, cap, hu, -, -⟩ := owns_spot hr (by cases xs <;> simp_all)
  subst hu
  obtain ⟨n, hn⟩ : ∃ n, xs.length = n := ⟨_, rfl⟩
  have HC : Hid (∀ W, Below w.heap.size w W → ∀ i, i < n → W.cell? ⟨g, 0 + i, none⟩ = some (.int .u32 (xs.getD i 0))) := fun W hb i hi => by
    rw [hb.cell (p := ⟨g, 0 + i, none⟩) (World.ownsRow.lt hr g rfl).2, Nat.zero_add, World.ownsRow.cellAt hr i (by omega)]
    exact wrd_at xs i (by omega)
  obtain ⟨c0, c1, c2, c3, c4, c5, c6⟩ := h.c
  have hlt := h.head.lt
  have QX : q ≠ w.heap.size := by omega
  have XQ : w.heap.size ≠ q := fun e => QX e.symm
  have QX1 : q ≠ w.heap.size + 1 := by omega
  have XQ1 : w.heap.size + 1 ≠ q := fun e => QX1 e.symm
  have HH : Hid (KR s w q z (.slice (some ⟨g, 0, none⟩) xs.length cap) (.slice none 0 0) T) := h
  rw [hn] at hl c5 HH
  have HM : Hid (xs.length = n) := hn
  have n0 : 0 < n := by cases xs <;> simp_all; omega
  have k1 : (T.k == 1) = false := by rw [hk]; rfl
  have k4 : (T.k == 4) = false := by rw [hk]; rfl
  rw [hz]
  have hd0 : Below w.heap.size w ((w.alloc (.cells (seec 0 0 0 0 0 (.slice none 0 0) (.slice none 0 0)) 55)).drew) := (alloc_below w _).drew
  have hd1 : Below w.heap.size w (((w.alloc (.cells (seec 0 0 0 0 0 (.slice none 0 0) (.slice none 0 0)) 55)).alloc (.cells (seec 0 0 0 0 0 (.slice none 0 0) (.slice none 0 0)) 55)).drew) := two_low _ _ _
  have Z0 : Hid (Blk ((w.alloc (.cells (seec 0 0 0 0 0 (.slice none 0 0) (.slice none 0 0)) 55)).drew) w.heap.size (seec 0 0 0 0 0 (.slice none 0 0) (.slice none 0 0)) 55) := alloc_at w _
  have Z1 : Hid (Blk (((w.alloc (.cells (seec 0 0 0 0 0 (.slice none 0 0) (.slice none 0 0)) 55)).alloc (.cells (seec 0 0 0 0 0 (.slice none 0 0) (.slice none 0 0)) 55)).drew) w.heap.size (seec 0 0 0 0 0 (.slice none 0 0) (.slice none 0 0)) 55) := two_at0 w _ _ _
  have Y1 : Hid (Blk (((w.alloc (.cells (seec 0 0 0 0 0 (.slice none 0 0) (.slice none 0 0)) 55)).alloc (.cells (seec 0 0 0 0 0 (.slice none 0 0) (.slice none 0 0)) 55)).drew) (w.heap.size + 1) (seec 0 0 0 0 0 (.slice none 0 0) (.slice none 0 0)) 55) := by
    have h4 := alloc_at (w.alloc (.cells (seec 0 0 0 0 0 (.slice none 0 0) (.slice none 0 0)) 55)) (.cells (seec 0 0 0 0 0 (.slice none 0 0) (.slice none 0 0)) 55)
    rw [alloc_size] at h4
    exact h4
  clear h hk hr hx hn
  go_enter Tryz.func13, Tryz.ntmps13
  go_wp2
  go_region_held3 (fun w' => (w'.cell? ⟨q, 0, none⟩ = some (.int .u8 T.k) ∧ w'.cell? ⟨q, 1, none⟩ = some (.int .u32 T.a) ∧ w'.cell? ⟨q, 2, none⟩ = some (.int .u32 T.b)) ∧ w'.cell? ⟨q, 4, none⟩ = some (.int .u32 T.o) ∧ w'.cell? ⟨q, 5, none⟩ = some (.slice (some ⟨g, 0, none⟩) n cap) ∧ w'.cell? ⟨q, 6, none⟩ = some (.slice none 0 0)) (go_keep) (first
    | (refine step_own rfl (.const (.slice none 0 0)) (.tmp 16) rfl w.heap.size (.slice none 0 0) 0 [] rfl (World.ownsRow_nil _ _ _ _) g 0 n cap xs rfl HM.out (by omega) (by omega) (HC.out ((w.alloc (.cells (seec 0 0 0 0 0 (.slice none 0 0) (.slice none 0 0)) 55)).drew) hd0) hd0.size ?_; intro g1 cc1 wa ho1 hb1 hbb; rw [Nat.zero_add]; rw [Nat.zero_add] at ho1; have H1 : Hid (wa.ownsRow w.heap.size 23 1 (.slice (some ⟨g1, 0, none⟩) n cc1) n (xs.map (Value.int .u32)) ∧ Below w.heap.size w wa) := ⟨ho1, hd0.trans hb1⟩; have ZA : Hid (Blk wa w.heap.size (seec 0 0 0 0 0 (.slice none 0 0) (.slice none 0 0)) 55) := Z0.out.below (hbb rfl); obtain ⟨e0, e1, e2, e3, e4, e5, e6⟩ := (HH.out.below (hd0.trans hb1)).c; have qa := (HH.out.below (hd0.trans hb1)).head.lt; clear ho1 hb1 hbb)
    | (refine step_own rfl (.const (.slice none 0 0)) (.tmp 16) rfl w.heap.size (.slice none 0 0) 0 [] rfl (World.ownsRow_nil _ _ _ _) g 0 n cap xs rfl HM.out (by omega) (by omega) (HC.out (((w.alloc (.cells (seec 0 0 0 0 0 (.slice none 0 0) (.slice none 0 0)) 55)).alloc (.cells (seec 0 0 0 0 0 (.slice none 0 0) (.slice none 0 0)) 55)).drew) hd1) hd1.size ?_; intro g1 cc1 wa ho1 hb1 hbb; rw [Nat.zero_add]; rw [Nat.zero_add] at ho1; have H1 : Hid (wa.ownsRow w.heap.size 23 1 (.slice (some ⟨g1, 0, none⟩) n cc1) n (xs.map (Value.int .u32)) ∧ Below w.heap.size w wa) := ⟨ho1, hd1.trans hb1⟩; have ZA : Hid (Blk wa w.heap.size (seec 0 0 0 0 0 (.slice none 0 0) (.slice none 0 0)) 55) := Z1.out.below (hbb rfl); have YA : Hid (Blk wa (w.heap.size + 1) (seec 0 0 0 0 0 (.slice none 0 0) (.slice none 0 0)) 55) := Y1.out.below (hbb rfl); obtain ⟨t0, t1, t2, t3, t4, t5, t6, t7, t8, t9, r0, r1, r2, r3, r4, r5, r6, r7, r8, r9⟩ := zero_cells YA.out; have ya := YA.out.lt; have G1 : Hid (g1 ≠ w.heap.size + 1) := fun e => (by have h5 := World.ownsRow.lt ho1 g1 rfl; subst e; exact absurd rfl (block_ne ho1 rfl YA.out (by decide))); obtain ⟨e0, e1, e2, e3, e4, e5, e6⟩ := (HH.out.below (hd1.trans hb1)).c; have qa := (HH.out.below (hd1.trans hb1)).head.lt; clear ho1 hb1 hbb))
  all_goals
    first
      | (have HX : Hid (Blk ((((((((((wa.setCell ⟨w.heap.size + 1, 0, none⟩ (.int .u32 0)).setCell ⟨w.heap.size + 1, 1, none⟩ (.int .u8 T.k)).setCell ⟨w.heap.size + 1, 2, none⟩ (.int .u32 T.a)).setCell ⟨w.heap.size + 1, 3, none⟩ (.int .u32 T.b)).setCell ⟨w.heap.size + 1, 4, none⟩ (.int .u32 0)).setCell ⟨w.heap.size + 1, 5, none⟩ (.int .u32 T.o)).setCell ⟨w.heap.size + 1, 6, none⟩ (.slice (some ⟨g1, 0, none⟩) n cc1)).setCell ⟨w.heap.size + 1, 7, none⟩ (.slice none 0 0)).setCell ⟨w.heap.size + 1, 8, none⟩ (.int .i64 0)).setCell ⟨w.heap.size + 1, 9, none⟩ (.slice none 0 0)) (w.heap.size + 1) (seec T.k T.a T.b 0 T.o (.slice (some ⟨g1, 0, none⟩) n cc1) (.slice none 0 0)) 55 ∧ Blk ((((((((((wa.setCell ⟨w.heap.size + 1, 0, none⟩ (.int .u32 0)).setCell ⟨w.heap.size + 1, 1, none⟩ (.int .u8 T.k)).setCell ⟨w.heap.size + 1, 2, none⟩ (.int .u32 T.a)).setCell ⟨w.heap.size + 1, 3, none⟩ (.int .u32 T.b)).setCell ⟨w.heap.size + 1, 4, none⟩ (.int .u32 0)).setCell ⟨w.heap.size + 1, 5, none⟩ (.int .u32 T.o)).setCell ⟨w.heap.size + 1, 6, none⟩ (.slice (some ⟨g1, 0, none⟩) n cc1)).setCell ⟨w.heap.size + 1, 7, none⟩ (.slice none 0 0)).setCell ⟨w.heap.size + 1, 8, none⟩ (.int .i64 0)).setCell ⟨w.heap.size + 1, 9, none⟩ (.slice none 0 0)) w.heap.size (seec 0 0 0 0 0 (.slice none 0 0) (.slice none 0 0)) 55 ∧ Below w.heap.size w ((((((((((wa.setCell ⟨w.heap.size + 1, 0, none⟩ (.int .u32 0)).setCell ⟨w.heap.size + 1, 1, none⟩ (.int .u8 T.k)).setCell ⟨w.heap.size + 1, 2, none⟩ (.int .u32 T.a)).setCell ⟨w.heap.size + 1, 3, none⟩ (.int .u32 T.b)).setCell ⟨w.heap.size + 1, 4, none⟩ (.int .u32 0)).setCell ⟨w.heap.size + 1, 5, none⟩ (.int .u32 T.o)).setCell ⟨w.heap.size + 1, 6, none⟩ (.slice (some ⟨g1, 0, none⟩) n cc1)).setCell ⟨w.heap.size + 1, 7, none⟩ (.slice none 0 0)).setCell ⟨w.heap.size + 1, 8, none⟩ (.int .i64 0)).setCell ⟨w.heap.size + 1, 9, none⟩ (.slice none 0 0)) ∧ ((((((((((wa.setCell ⟨w.heap.size + 1, 0, none⟩ (.int .u32 0)).setCell ⟨w.heap.size + 1, 1, none⟩ (.int .u8 T.k)).setCell ⟨w.heap.size + 1, 2, none⟩ (.int .u32 T.a)).setCell ⟨w.heap.size + 1, 3, none⟩ (.int .u32 T.b)).setCell ⟨w.heap.size + 1, 4, none⟩ (.int .u32 0)).setCell ⟨w.heap.size + 1, 5, none⟩ (.int .u32 T.o)).setCell ⟨w.heap.size + 1, 6, none⟩ (.slice (some ⟨g1, 0, none⟩) n cc1)).setCell ⟨w.heap.size + 1, 7, none⟩ (.slice none 0 0)).setCell ⟨w.heap.size + 1, 8, none⟩ (.int .i64 0)).setCell ⟨w.heap.size + 1, 9, none⟩ (.slice none 0 0)).ownsRow w.heap.size 23 1 (.slice (some ⟨g1, 0, none⟩) n cc1) n (xs.map (Value.int .u32)) ∧ w.heap.size ≤ w.heap.size + 1 ∧ w.heap.size ≠ w.heap.size + 1 ∧ g1 ≠ w.heap.size + 1) := (by
           obtain ⟨T1, T2⟩ := ten_sets YA.out (.int .u32 0) (.int .u8 T.k) (.int .u32 T.a) (.int .u32 T.b) (.int .u32 0) (.int .u32 T.o) (.slice (some ⟨g1, 0, none⟩) n cc1) (.slice none 0 0) (.int .i64 0) (.slice none 0 0)
           exact ⟨T1, ZA.out.buts T2 (by simp), H1.out.2.trans (one_below T2 (Nat.le_succ _) H1.out.2.size), owns_buts H1.out.1 T2 (fun k hk => by simp only [Value.ownBlock] at hk; cases hk; simpa using G1.out), Nat.le_succ _, by omega, G1.out⟩)
         clear e0 e1 e2 e3 e4 e5 e6 ZA H1 YA t0 t1 t2 t3 t4 t5 t6 t7 t8 t9 r0 r1 r2 r3 r4 r5 r6 r7 r8 r9
         generalize (((((((((wa.setCell ⟨w.heap.size + 1, 0, none⟩ (.int .u32 0)).setCell ⟨w.heap.size + 1, 1, none⟩ (.int .u8 T.k)).setCell ⟨w.heap.size + 1, 2, none⟩ (.int .u32 T.a)).setCell ⟨w.heap.size + 1, 3, none⟩ (.int .u32 T.b)).setCell ⟨w.heap.size + 1, 4, none⟩ (.int .u32 0)).setCell ⟨w.heap.size + 1, 5, none⟩ (.int .u32 T.o)).setCell ⟨w.heap.size + 1, 6, none⟩ (.slice (some ⟨g1, 0, none⟩) n cc1)).setCell ⟨w.heap.size + 1, 7, none⟩ (.slice none 0 0)).setCell ⟨w.heap.size + 1, 8, none⟩ (.int .i64 0)).setCell ⟨w.heap.size + 1, 9, none⟩ (.slice none 0 0) = w2 at *
         clear QX1 XQ1 Y1 G1
         generalize w.heap.size + 1 = X at *)
      | (have HX : Hid (Blk (wa.alloc (.cells #[.int .u32 0, .int .u8 T.k, .int .u32 T.a, .int .u32 T.b, .int .u32 0, .int .u32 T.o, (.slice (some ⟨g1, 0, none⟩) n cc1), .slice none 0 0, .int .i64 0, .slice none 0 0] 55)) wa.heap.size (seec T.k T.a T.b 0 T.o (.slice (some ⟨g1, 0, none⟩) n cc1) (.slice none 0 0)) 55 ∧ Blk (wa.alloc (.cells #[.int .u32 0, .int .u8 T.k, .int .u32 T.a, .int .u32 T.b, .int .u32 0, .int .u32 T.o, (.slice (some ⟨g1, 0, none⟩) n cc1), .slice none 0 0, .int .i64 0, .slice none 0 0] 55)) w.heap.size (seec 0 0 0 0 0 (.slice none 0 0) (.slice none 0 0)) 55 ∧ Below w.heap.size w (wa.alloc (.cells #[.int .u32 0, .int .u8 T.k, .int .u32 T.a, .int .u32 T.b, .int .u32 0, .int .u32 T.o, (.slice (some ⟨g1, 0, none⟩) n cc1), .slice none 0 0, .int .i64 0, .slice none 0 0] 55)) ∧ (wa.alloc (.cells #[.int .u32 0, .int .u8 T.k, .int .u32 T.a, .int .u32 T.b, .int .u32 0, .int .u32 T.o, (.slice (some ⟨g1, 0, none⟩) n cc1), .slice none 0 0, .int .i64 0, .slice none 0 0] 55)).ownsRow w.heap.size 23 1 (.slice (some ⟨g1, 0, none⟩) n cc1) n (xs.map (Value.int .u32)) ∧ w.heap.size ≤ wa.heap.size ∧ w.heap.size ≠ wa.heap.size ∧ g1 ≠ wa.heap.size) := ⟨alloc_at wa _, ZA.out.below (alloc_below wa _), H1.out.2.trans ((alloc_below wa _).mono H1.out.2.size), World.ownsRow.alloc H1.out.1 _, H1.out.2.size, Nat.ne_of_lt ZA.out.lt, Nat.ne_of_lt (World.ownsRow.lt H1.out.1 g1 rfl).2⟩
         clear e0 e1 e2 e3 e4 e5 e6 ZA H1
         generalize wa.alloc (.cells #[.int .u32 0, .int .u8 T.k, .int .u32 T.a, .int .u32 T.b, .int .u32 0, .int .u32 T.o, (.slice (some ⟨g1, 0, none⟩) n cc1), .slice none 0 0, .int .i64 0, .slice none 0 0] 55) = w2 at *
         generalize wa.heap.size = X at *)
    have P2 : Hid (KR s w2 q z (.slice (some ⟨g, 0, none⟩) n cap) (.slice none 0 0) T) := HH.out.below HX.out.2.2.1
    obtain ⟨d0, d1, d2, d3, d4, d5, d6⟩ := P2.out.c
    obtain ⟨x0, x1, x2, x3, x4, x5, x6, x7, x8, x9⟩ := ten_cells HX.out.1
    have xl := HX.out.1.lt
    go_wp2
    refine wp_loop_rounds 1 ?_
    rw [rounds_succ]
    go_wp2_with (first
      | (refine wpList_store_row rfl _ _ _ rfl w.heap.size (seec T.k T.a T.b 0 T.o (.slice (some ⟨g1, 0, none⟩) n cc1) (.slice none 0 0)) rfl rfl 55 _ HX.out.2.1 (by kernel_rfl) rfl (by kernel_rfl) ?_))
    refine bodyPost_ret (results_cell_row (g := w.heap.size) rfl _ _ _ _ _ (d := _) rfl (HX.out.2.1.setRow _) Tryz.underlying55 rfl (by kernel_rfl)) rfl ?_
    obtain ⟨hX1, hX2, hX3, hX4, hX5, hX6, hX7⟩ := HX.out
    have hg1 : g1 ≠ w.heap.size := block_ne hX4 rfl hX2 (by decide)
    have ho := owns_buts hX4 (setRow_buts w2 w.heap.size (seec T.k T.a T.b 0 T.o (.slice (some ⟨g1, 0, none⟩) n cc1) (.slice none 0 0))) (fun k hk => by simp only [Value.ownBlock] at hk; cases hk; simpa using hg1)
    exact ⟨some ⟨g1, 0, none⟩, n, cc1, none, 0, 0, rfl, ⟨HM.out.symm, own_src ho HM.out⟩, ⟨rfl, src_none _⟩, hX3.trans (one_below (setRow_buts w2 _ _) (Nat.le_refl _) hX3.size)⟩
set_option maxHeartbeats 8000000 in
theorem ksee_pool {s : Nat} {w : World} {q z : Nat} {u v : Value} {T : Sx} (h : KR s w q z u v T) (hx : T.zs ≠ []) (hz : T.xs = []) (hk : T.k = 5) (hl : T.zs.length ≤ 64) :
    Calls Tryz.prog 13 #[.pointer (some ⟨q, 0, none⟩)] w (KSeen T.k T.a T.b (Pl.cnt 0 T.zs : Nat) T.o T.xs T.zs w) := by
  obtain rfl := h.emp hz
  obtain ⟨xs, hxs⟩ : ∃ xs, T.zs = xs := ⟨_, rfl⟩
  have hown := h.own
  rw [hxs] at hx hl hown ⊢
  have hl0 : 0 < xs.length := by cases xs <;> simp_all
  obtain ⟨sp, hv, hsp⟩ := hown.form
  obtain ⟨rfl, hR⟩ := hsp hl0
  subst hv
  obtain ⟨n, hn⟩ : ∃ n, xs.length = n := ⟨_, rfl⟩
  obtain ⟨g, hg⟩ : ∃ g, z = g := ⟨_, rfl⟩
  subst hg
  have HR : Hid (Row w z xs) := hR
  have HC : Hid (∀ W, Below w.heap.size w W → ∀ i, i < n → W.cell? ⟨z, 0 + i, none⟩ = some (.int .u32 (xs.getD i 0))) := fun W hb i hi => by
    rw [hb.cell (p := ⟨z, 0 + i, none⟩) hR.lt, Nat.zero_add]
    exact hR.cell i (by omega)
  obtain ⟨c0, c1, c2, c3, c4, c5, c6⟩ := h.c
  have hlt := h.head.lt
  have QX : q ≠ w.heap.size := by omega
  have XQ : w.heap.size ≠ q := fun e => QX e.symm
  have QX1 : q ≠ w.heap.size + 1 := by omega
  have XQ1 : w.heap.size + 1 ≠ q := fun e => QX1 e.symm
  have HH : Hid (KR s w q z (.slice none 0 0) (.slice (some ⟨z, 0, none⟩) xs.length xs.length) T) := h
  rw [hn] at hl c6 HH hl0
  have HM : Hid (xs.length = n) := hn
  have k1 : (T.k == 1) = false := by rw [hk]; rfl
  have k4 : (T.k == 4) = false := by rw [hk]; rfl
  rw [hz]
  have hd0 : Below w.heap.size w ((w.alloc (.cells (seec 0 0 0 0 0 (.slice none 0 0) (.slice none 0 0)) 55)).drew) := (alloc_below w _).drew
  have hd1 : Below w.heap.size w (((w.alloc (.cells (seec 0 0 0 0 0 (.slice none 0 0) (.slice none 0 0)) 55)).alloc (.cells (seec 0 0 0 0 0 (.slice none 0 0) (.slice none 0 0)) 55)).drew) := two_low _ _ _
  have Z0 : Hid (Blk ((w.alloc (.cells (seec 0 0 0 0 0 (.slice none 0 0) (.slice none 0 0)) 55)).drew) w.heap.size (seec 0 0 0 0 0 (.slice none 0 0) (.slice none 0 0)) 55) := alloc_at w _
  have Z1 : Hid (Blk (((w.alloc (.cells (seec 0 0 0 0 0 (.slice none 0 0) (.slice none 0 0)) 55)).alloc (.cells (seec 0 0 0 0 0 (.slice none 0 0) (.slice none 0 0)) 55)).drew) w.heap.size (seec 0 0 0 0 0 (.slice none 0 0) (.slice none 0 0)) 55) := two_at0 w _ _ _
  have Y1 : Hid (Blk (((w.alloc (.cells (seec 0 0 0 0 0 (.slice none 0 0) (.slice none 0 0)) 55)).alloc (.cells (seec 0 0 0 0 0 (.slice none 0 0) (.slice none 0 0)) 55)).drew) (w.heap.size + 1) (seec 0 0 0 0 0 (.slice none 0 0) (.slice none 0 0)) 55) := by
    have h4 := alloc_at (w.alloc (.cells (seec 0 0 0 0 0 (.slice none 0 0) (.slice none 0 0)) 55)) (.cells (seec 0 0 0 0 0 (.slice none 0 0) (.slice none 0 0)) 55)
    rw [alloc_size] at h4
    exact h4
  clear h hk hR hx hn hown hsp
  go_enter Tryz.func13, Tryz.ntmps13
  go_wp2
  go_region_held3 (fun w' => (w'.cell? ⟨q, 0, none⟩ = some (.int .u8 T.k) ∧ w'.cell? ⟨q, 1, none⟩ = some (.int .u32 T.a) ∧ w'.cell? ⟨q, 2, none⟩ = some (.int .u32 T.b)) ∧ w'.cell? ⟨q, 4, none⟩ = some (.int .u32 T.o) ∧ w'.cell? ⟨q, 5, none⟩ = some (.slice none 0 0) ∧ w'.cell? ⟨q, 6, none⟩ = some (.slice (some ⟨z, 0, none⟩) n n)) (go_keep) (first
    | (refine step_own rfl (.const (.slice none 0 0)) (.tmp 21) rfl w.heap.size (.slice none 0 0) 0 [] rfl (World.ownsRow_nil _ _ _ _) z 0 n n xs rfl HM.out (by omega) (by omega) (HC.out ((w.alloc (.cells (seec 0 0 0 0 0 (.slice none 0 0) (.slice none 0 0)) 55)).drew) hd0) hd0.size ?_; intro g1 cc1 wa ho1 hb1 hbb; rw [Nat.zero_add]; rw [Nat.zero_add] at ho1; have H1 : Hid (wa.ownsRow w.heap.size 23 1 (.slice (some ⟨g1, 0, none⟩) n cc1) n (xs.map (Value.int .u32)) ∧ Below w.heap.size w wa) := ⟨ho1, hd0.trans hb1⟩; have ZA : Hid (Blk wa w.heap.size (seec 0 0 0 0 0 (.slice none 0 0) (.slice none 0 0)) 55) := Z0.out.below (hbb rfl); obtain ⟨e0, e1, e2, e3, e4, e5, e6⟩ := (HH.out.below (hd0.trans hb1)).c; have qa := (HH.out.below (hd0.trans hb1)).head.lt; clear ho1 hb1 hbb)
    | (refine step_own rfl (.const (.slice none 0 0)) (.tmp 21) rfl w.heap.size (.slice none 0 0) 0 [] rfl (World.ownsRow_nil _ _ _ _) z 0 n n xs rfl HM.out (by omega) (by omega) (HC.out (((w.alloc (.cells (seec 0 0 0 0 0 (.slice none 0 0) (.slice none 0 0)) 55)).alloc (.cells (seec 0 0 0 0 0 (.slice none 0 0) (.slice none 0 0)) 55)).drew) hd1) hd1.size ?_; intro g1 cc1 wa ho1 hb1 hbb; rw [Nat.zero_add]; rw [Nat.zero_add] at ho1; have H1 : Hid (wa.ownsRow w.heap.size 23 1 (.slice (some ⟨g1, 0, none⟩) n cc1) n (xs.map (Value.int .u32)) ∧ Below w.heap.size w wa) := ⟨ho1, hd1.trans hb1⟩; have ZA : Hid (Blk wa w.heap.size (seec 0 0 0 0 0 (.slice none 0 0) (.slice none 0 0)) 55) := Z1.out.below (hbb rfl); have YA : Hid (Blk wa (w.heap.size + 1) (seec 0 0 0 0 0 (.slice none 0 0) (.slice none 0 0)) 55) := Y1.out.below (hbb rfl); obtain ⟨t0, t1, t2, t3, t4, t5, t6, t7, t8, t9, r0, r1, r2, r3, r4, r5, r6, r7, r8, r9⟩ := zero_cells YA.out; have ya := YA.out.lt; have G1 : Hid (g1 ≠ w.heap.size + 1) := fun e => (by have h5 := World.ownsRow.lt ho1 g1 rfl; subst e; exact absurd rfl (block_ne ho1 rfl YA.out (by decide))); obtain ⟨e0, e1, e2, e3, e4, e5, e6⟩ := (HH.out.below (hd1.trans hb1)).c; have qa := (HH.out.below (hd1.trans hb1)).head.lt; clear ho1 hb1 hbb))
  all_goals
    first
      | (have HX : Hid (Blk ((((((((((wa.setCell ⟨w.heap.size + 1, 0, none⟩ (.int .u32 0)).setCell ⟨w.heap.size + 1, 1, none⟩ (.int .u8 T.k)).setCell ⟨w.heap.size + 1, 2, none⟩ (.int .u32 T.a)).setCell ⟨w.heap.size + 1, 3, none⟩ (.int .u32 T.b)).setCell ⟨w.heap.size + 1, 4, none⟩ (.int .u32 0)).setCell ⟨w.heap.size + 1, 5, none⟩ (.int .u32 T.o)).setCell ⟨w.heap.size + 1, 6, none⟩ (.slice none 0 0)).setCell ⟨w.heap.size + 1, 7, none⟩ (.slice (some ⟨g1, 0, none⟩) n cc1)).setCell ⟨w.heap.size + 1, 8, none⟩ (.int .i64 0)).setCell ⟨w.heap.size + 1, 9, none⟩ (.slice none 0 0)) (w.heap.size + 1) (seec T.k T.a T.b 0 T.o (.slice none 0 0) (.slice (some ⟨g1, 0, none⟩) n cc1)) 55 ∧ Blk ((((((((((wa.setCell ⟨w.heap.size + 1, 0, none⟩ (.int .u32 0)).setCell ⟨w.heap.size + 1, 1, none⟩ (.int .u8 T.k)).setCell ⟨w.heap.size + 1, 2, none⟩ (.int .u32 T.a)).setCell ⟨w.heap.size + 1, 3, none⟩ (.int .u32 T.b)).setCell ⟨w.heap.size + 1, 4, none⟩ (.int .u32 0)).setCell ⟨w.heap.size + 1, 5, none⟩ (.int .u32 T.o)).setCell ⟨w.heap.size + 1, 6, none⟩ (.slice none 0 0)).setCell ⟨w.heap.size + 1, 7, none⟩ (.slice (some ⟨g1, 0, none⟩) n cc1)).setCell ⟨w.heap.size + 1, 8, none⟩ (.int .i64 0)).setCell ⟨w.heap.size + 1, 9, none⟩ (.slice none 0 0)) w.heap.size (seec 0 0 0 0 0 (.slice none 0 0) (.slice none 0 0)) 55 ∧ Below w.heap.size w ((((((((((wa.setCell ⟨w.heap.size + 1, 0, none⟩ (.int .u32 0)).setCell ⟨w.heap.size + 1, 1, none⟩ (.int .u8 T.k)).setCell ⟨w.heap.size + 1, 2, none⟩ (.int .u32 T.a)).setCell ⟨w.heap.size + 1, 3, none⟩ (.int .u32 T.b)).setCell ⟨w.heap.size + 1, 4, none⟩ (.int .u32 0)).setCell ⟨w.heap.size + 1, 5, none⟩ (.int .u32 T.o)).setCell ⟨w.heap.size + 1, 6, none⟩ (.slice none 0 0)).setCell ⟨w.heap.size + 1, 7, none⟩ (.slice (some ⟨g1, 0, none⟩) n cc1)).setCell ⟨w.heap.size + 1, 8, none⟩ (.int .i64 0)).setCell ⟨w.heap.size + 1, 9, none⟩ (.slice none 0 0)) ∧ ((((((((((wa.setCell ⟨w.heap.size + 1, 0, none⟩ (.int .u32 0)).setCell ⟨w.heap.size + 1, 1, none⟩ (.int .u8 T.k)).setCell ⟨w.heap.size + 1, 2, none⟩ (.int .u32 T.a)).setCell ⟨w.heap.size + 1, 3, none⟩ (.int .u32 T.b)).setCell ⟨w.heap.size + 1, 4, none⟩ (.int .u32 0)).setCell ⟨w.heap.size + 1, 5, none⟩ (.int .u32 T.o)).setCell ⟨w.heap.size + 1, 6, none⟩ (.slice none 0 0)).setCell ⟨w.heap.size + 1, 7, none⟩ (.slice (some ⟨g1, 0, none⟩) n cc1)).setCell ⟨w.heap.size + 1, 8, none⟩ (.int .i64 0)).setCell ⟨w.heap.size + 1, 9, none⟩ (.slice none 0 0)).ownsRow w.heap.size 23 1 (.slice (some ⟨g1, 0, none⟩) n cc1) n (xs.map (Value.int .u32)) ∧ w.heap.size ≤ w.heap.size + 1 ∧ w.heap.size ≠ w.heap.size + 1 ∧ g1 ≠ w.heap.size + 1) := (by
           obtain ⟨T1, T2⟩ := ten_sets YA.out (.int .u32 0) (.int .u8 T.k) (.int .u32 T.a) (.int .u32 T.b) (.int .u32 0) (.int .u32 T.o) (.slice none 0 0) (.slice (some ⟨g1, 0, none⟩) n cc1) (.int .i64 0) (.slice none 0 0)
           exact ⟨T1, ZA.out.buts T2 (by simp), H1.out.2.trans (one_below T2 (Nat.le_succ _) H1.out.2.size), owns_buts H1.out.1 T2 (fun k hk => by simp only [Value.ownBlock] at hk; cases hk; simpa using G1.out), Nat.le_succ _, by omega, G1.out⟩)
         clear e0 e1 e2 e3 e4 e5 e6 ZA H1 YA t0 t1 t2 t3 t4 t5 t6 t7 t8 t9 r0 r1 r2 r3 r4 r5 r6 r7 r8 r9
         generalize (((((((((wa.setCell ⟨w.heap.size + 1, 0, none⟩ (.int .u32 0)).setCell ⟨w.heap.size + 1, 1, none⟩ (.int .u8 T.k)).setCell ⟨w.heap.size + 1, 2, none⟩ (.int .u32 T.a)).setCell ⟨w.heap.size + 1, 3, none⟩ (.int .u32 T.b)).setCell ⟨w.heap.size + 1, 4, none⟩ (.int .u32 0)).setCell ⟨w.heap.size + 1, 5, none⟩ (.int .u32 T.o)).setCell ⟨w.heap.size + 1, 6, none⟩ (.slice none 0 0)).setCell ⟨w.heap.size + 1, 7, none⟩ (.slice (some ⟨g1, 0, none⟩) n cc1)).setCell ⟨w.heap.size + 1, 8, none⟩ (.int .i64 0)).setCell ⟨w.heap.size + 1, 9, none⟩ (.slice none 0 0) = w2 at *
         clear QX1 XQ1 Y1 G1
         generalize w.heap.size + 1 = X at *)
      | (have HX : Hid (Blk (wa.alloc (.cells #[.int .u32 0, .int .u8 T.k, .int .u32 T.a, .int .u32 T.b, .int .u32 0, .int .u32 T.o, .slice none 0 0, (.slice (some ⟨g1, 0, none⟩) n cc1), .int .i64 0, .slice none 0 0] 55)) wa.heap.size (seec T.k T.a T.b 0 T.o (.slice none 0 0) (.slice (some ⟨g1, 0, none⟩) n cc1)) 55 ∧ Blk (wa.alloc (.cells #[.int .u32 0, .int .u8 T.k, .int .u32 T.a, .int .u32 T.b, .int .u32 0, .int .u32 T.o, .slice none 0 0, (.slice (some ⟨g1, 0, none⟩) n cc1), .int .i64 0, .slice none 0 0] 55)) w.heap.size (seec 0 0 0 0 0 (.slice none 0 0) (.slice none 0 0)) 55 ∧ Below w.heap.size w (wa.alloc (.cells #[.int .u32 0, .int .u8 T.k, .int .u32 T.a, .int .u32 T.b, .int .u32 0, .int .u32 T.o, .slice none 0 0, (.slice (some ⟨g1, 0, none⟩) n cc1), .int .i64 0, .slice none 0 0] 55)) ∧ (wa.alloc (.cells #[.int .u32 0, .int .u8 T.k, .int .u32 T.a, .int .u32 T.b, .int .u32 0, .int .u32 T.o, .slice none 0 0, (.slice (some ⟨g1, 0, none⟩) n cc1), .int .i64 0, .slice none 0 0] 55)).ownsRow w.heap.size 23 1 (.slice (some ⟨g1, 0, none⟩) n cc1) n (xs.map (Value.int .u32)) ∧ w.heap.size ≤ wa.heap.size ∧ w.heap.size ≠ wa.heap.size ∧ g1 ≠ wa.heap.size) := ⟨alloc_at wa _, ZA.out.below (alloc_below wa _), H1.out.2.trans ((alloc_below wa _).mono H1.out.2.size), World.ownsRow.alloc H1.out.1 _, H1.out.2.size, Nat.ne_of_lt ZA.out.lt, Nat.ne_of_lt (World.ownsRow.lt H1.out.1 g1 rfl).2⟩
         clear e0 e1 e2 e3 e4 e5 e6 ZA H1
         generalize wa.alloc (.cells #[.int .u32 0, .int .u8 T.k, .int .u32 T.a, .int .u32 T.b, .int .u32 0, .int .u32 T.o, .slice none 0 0, (.slice (some ⟨g1, 0, none⟩) n cc1), .int .i64 0, .slice none 0 0] 55) = w2 at *
         generalize wa.heap.size = X at *)
    have P2 : Hid (KR s w2 q z (.slice none 0 0) (.slice (some ⟨z, 0, none⟩) n n) T) := HH.out.below HX.out.2.2.1
    have R2 : Hid (Row w2 z xs) := HR.out.below' HX.out.2.2.1
    have QXX : Hid (q ≠ X) := P2.out.head.ne HX.out.1 (by decide)
    have ZXX : Hid (z ≠ X) := Blk.ne (t := 23) R2.out HX.out.1 (by decide)
    obtain ⟨d0, d1, d2, d3, d4, d5, d6⟩ := P2.out.c
    have ql := P2.out.head.lt
    have C0 : Hid (Blk w2 X (seec T.k T.a T.b (Pl.cnt 0 (xs.take 0) : Nat) T.o (.slice none 0 0) (.slice (some ⟨g1, 0, none⟩) n cc1)) 55) := (by show Blk _ _ _ _; have := HX.out.1; simpa [Pl.cnt] using this)
    go_wp2
    go_loopg [4] n (fun gx s4 wx => ∃ k : Nat, k + gx = n ∧ s4 = .int .i64 k ∧ Hid (Blk wx X (seec T.k T.a T.b (Pl.cnt 0 (xs.take k) : Nat) T.o (.slice none 0 0) (.slice (some ⟨g1, 0, none⟩) n cc1)) 55) ∧ Hid (Buts [X] w2 wx))
    case atStart => exact ⟨0, by omega, rfl, C0, Buts.refl _ _⟩
    case round =>
      clear C0 d0 d1 d2 d3 d4 d5 d6 ql
      obtain ⟨k, hkg, rfl, CK, BK⟩ := hrel
      have q6 : wr.cell? ⟨q, 6, none⟩ = some (.slice (some ⟨z, 0, none⟩) n n) := (by rw [(P2.out.head.buts BK.out (by simpa using QXX.out)).cell]; rfl)
      have ql := (P2.out.head.buts BK.out (by simpa using QXX.out)).lt
      have hck : Pl.cnt 0 (xs.take k) ≤ 64 := (by have h1 := Pl.cnt_le 0 (xs.take k); have h2 := HM.out; simp at h1; omega)
      obtain ⟨x0, x1, x2, x3, x4, x5, x6, x7, x8, x9⟩ := ten_cells CK.out
      have xl := CK.out.lt
      have xf := CK.out.free 4
      cases gk with
      | succ gx =>
        have hlt2 : (k : Int) < n := by omega
        have HK : Hid (k < xs.length) := by show _ < _; rw [HM.out]; omega
        have RK := R2.out.buts' BK.out (by simpa using ZXX.out)
        have kk := RK.cell k HK.out
        have kl := RK.lt
        have hct := cnt_take (who := 0) HK.out
        clear RK
        by_cases hy : xs.getD k 0 = 0
        · have HT : Hid (Pl.cnt 0 (xs.take (k + 1)) = Pl.cnt 0 (xs.take k) + 1) := (by show _ = _; rw [hct, if_pos hy])
          rw [hy] at kk
          clear hy hct
          obtain ⟨c, hc⟩ : ∃ c, Pl.cnt 0 (xs.take k) = c := ⟨_, rfl⟩
          rw [hc] at HT x4 CK hck
          have hcw : IntKind.u32.wrap ((c : Int) + 1) = (c : Int) + 1 := (by simp only [IntKind.wrap]; go_arith)
          clear hc
          go_wp2
          go_roundg gx
          case measure => omega
          case rel => exact ⟨k + 1, by omega, by go_num, by rw [HT.out]; exact seec_c CK.out _, BK.out.trans (Buts.cell _ _ _ _)⟩
        · have HT : Hid (Pl.cnt 0 (xs.take (k + 1)) = Pl.cnt 0 (xs.take k)) := (by show _ = _; rw [hct, if_neg hy]; rfl)
          have hyw : (xs.getD k 0 == 0) = false := by simpa using hy
          clear hy hct
          generalize xs.getD k 0 = y at *
          go_wp2
          go_roundg gx
          case measure => omega
          case rel => exact ⟨k + 1, by omega, by go_num, by rw [HT.out]; exact CK, BK⟩
      | zero =>
        obtain rfl : k = n := by omega
        have hlt2 : ¬ ((k : Int) < k) := by omega
        have HT : Hid (Pl.cnt 0 (xs.take k) = Pl.cnt 0 xs) := (by show _ = _; rw [← HM.out]; simp)
        have ZK : Hid (Blk wr w.heap.size (seec 0 0 0 0 0 (.slice none 0 0) (.slice none 0 0)) 55) := HX.out.2.1.buts BK.out (by simpa using HX.out.2.2.2.2.2.1)
        obtain ⟨c, hc⟩ : ∃ c, Pl.cnt 0 (xs.take k) = c := ⟨_, rfl⟩
        rw [hc] at HT x4 CK hck
        clear hc
        go_wp2_with (first
          | (refine wpList_store_row rfl _ _ _ rfl w.heap.size (seec T.k T.a T.b (c : Nat) T.o (.slice none 0 0) (.slice (some ⟨g1, 0, none⟩) k cc1)) rfl rfl 55 _ ZK.out (by kernel_rfl) rfl (by kernel_rfl) ?_))
        refine bodyPost_ret (results_cell_row (g := w.heap.size) rfl _ _ _ _ _ (d := _) rfl (ZK.out.setRow _) Tryz.underlying55 rfl (by kernel_rfl)) rfl ?_
        obtain ⟨hX1, hX2, hX3, hX4, hX5, hX6, hX7⟩ := HX.out
        have hg1 : g1 ≠ w.heap.size := block_ne hX4 rfl hX2 (by decide)
        have hoK := owns_buts hX4 BK.out (fun j hj => by simp only [Value.ownBlock] at hj; cases hj; simpa using hX7)
        have ho := owns_buts hoK (setRow_buts wr w.heap.size (seec T.k T.a T.b (c : Nat) T.o (.slice none 0 0) (.slice (some ⟨g1, 0, none⟩) k cc1))) (fun j hj => by simp only [Value.ownBlock] at hj; cases hj; simpa using hg1)
        have hBK := hX3.trans (one_below BK.out hX5 hX3.size)
        exact ⟨none, 0, 0, some ⟨g1, 0, none⟩, k, cc1, by rw [← HT.out], ⟨rfl, src_none _⟩, ⟨HM.out.symm, own_src ho HM.out⟩, hBK.trans (one_below (setRow_buts wr _ _) (Nat.le_refl _) hBK.size)⟩
theorem KT.one {w : World} {p f g : Nat} {T : Sx} (h : KT w p f g T) : (T.xs = [] ∧ T.zs = []) ∨ (T.xs ≠ [] ∧ T.zs = [] ∧ T.k = 3) ∨ (T.xs = [] ∧ T.zs ≠ [] ∧ T.k = 5) := by
  cases h with
  | sem h => exact Or.inl ⟨rfl, rfl⟩
  | mtx h => exact Or.inl ⟨rfl, rfl⟩
  | @row m xs h =>
    by_cases e : xs = []
    · exact Or.inl ⟨e, rfl⟩
    · exact Or.inr (Or.inl ⟨e, rfl, rfl⟩)
  | flg h => exact Or.inl ⟨rfl, rfl⟩
  | @pool m b zs h =>
    by_cases e : zs = []
    · exact Or.inl ⟨rfl, e⟩
    · exact Or.inr (Or.inr ⟨rfl, e, rfl⟩)
  | ala h => exact Or.inl ⟨rfl, rfl⟩
theorem ksee_x {s : Nat} {w : World} {q z : Nat} {u v : Value} {T : Sx} (h : KR s w q z u v T) (hr : Rg T) (ho : (T.xs = [] ∧ T.zs = []) ∨ (T.xs ≠ [] ∧ T.zs = [] ∧ T.k = 3) ∨ (T.xs = [] ∧ T.zs ≠ [] ∧ T.k = 5)) :
    Calls Tryz.prog 13 #[.pointer (some ⟨q, 0, none⟩)] w (KSeen T.k T.a T.b (cX T) T.o T.xs T.zs w) := by
  rcases ho with ⟨h1, h2⟩ | ⟨h1, h2, h3⟩ | ⟨h1, h2, h3⟩
  · by_cases hk : T.k = 1 ∨ T.k = 4
    · rw [show cX T = (T.n : Nat) by simp [cX, hk, h2, Pl.cnt]]
      exact ksee_num h h1 h2 hk
    · rw [show cX T = 0 by simp [cX, hk, h2, Pl.cnt]]
      exact ksee_none h h1 h2 (by omega)
  · rw [show cX T = 0 by simp [cX, h3, h2, Pl.cnt]]
    exact ksee_row h h1 h2 h3 hr.xs
  · rw [show cX T = (Pl.cnt 0 T.zs : Nat) by simp [cX, h3]]
    exact ksee_pool h h2 h1 h3 hr.zs
end Go.Proofs.YteicnekoogmmmaaGreatDoor
