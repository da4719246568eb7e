/- The document's own thing: messages that are put, pushed, got. -/
import Derived.Test.YteicnekoogmmmaaGreatDoorKM4
namespace Go.Proofs.YteicnekoogmmmaaGreatDoor
open Go Go.RowKit
set_option maxRecDepth 100000
set_option linter.unusedVariables false
set_option maxHeartbeats 8000000 in
theorem kput_nil {s : Nat} {w : World} {q z : Nat} {u v : Value} {T : Sx} (h : KR s w q z u v T) (hs : s ≤ w.heap.size) (m : Nat) (hm : T.a = (m : Nat)) (hm2 : m ≤ 64) (h0 : T.xs = []) (h1 : 1 ≤ m) (who ah av am aw : Int) :
    Calls Tryz.prog 22 #[.pointer (some ⟨q, 0, none⟩), .int .u32 who, .agg #[.int .u8 7, .int .u32 ah, .int .u32 av, .int .u32 am, .int .i64 aw]] w (KAns s w q z v (0, 0, { T with xs := [av] })) := by
  have A1 : Hid (Below w.heap.size w (w.alloc (.cells #[.int .u8 7, .int .u32 ah, .int .u32 av, .int .u32 am, .int .i64 aw] 39))) := alloc_below w _
  have HK : Hid (KR s w q z u v T) := h
  have HS : Hid (s ≤ w.heap.size) := hs
  obtain ⟨_, c1, _, _, _, c5, _⟩ := h.c
  have hlt := h.head.lt
  rw [hm] at c1
  have hwr := wrap_a (n := m) (by omega)
  unfold KAns
  have hu := h.emp h0
  subst hu
  have hd : decide ((m : Int) ≤ 0) = false := by simp; omega
  have hd2 : ¬ (m : Int) ≤ 0 := by omega
  clear h hm h0 hs
  go_enter Tryz.func22, Tryz.ntmps22
  go_wp2
  go_quiet ((fail))
  have hbd : Below w.heap.size w ((w.alloc (.cells #[.int .u8 7, .int .u32 ah, .int .u32 av, .int .u32 am, .int .i64 aw] 39)).drewN nq) := A1.out.trans ((below_drewN _ _).mono A1.out.size)
  have hX : ((w.alloc (.cells #[.int .u8 7, .int .u32 ah, .int .u32 av, .int .u32 am, .int .i64 aw] 39)).drewN nq).cell? ⟨w.heap.size, 2, none⟩ = some (.int .u32 av) := (askc w 7 ah av am aw).1
  have hX0 : ((w.alloc (.cells #[.int .u8 7, .int .u32 ah, .int .u32 av, .int .u32 am, .int .i64 aw] 39)).drewN nq).cell? ⟨w.heap.size, 0, none⟩ = some (.int .u8 7) := by show (w.alloc _).cell? _ = _; rw [cell_of (alloc_at w _)]; rfl
  have hXl : w.heap.size < ((w.alloc (.cells #[.int .u8 7, .int .u32 ah, .int .u32 av, .int .u32 am, .int .i64 aw] 39)).drewN nq).heap.size := by show _ < (w.alloc _).heap.size; rw [alloc_size]; omega
  generalize (w.alloc (.cells #[.int .u8 7, .int .u32 ah, .int .u32 av, .int .u32 am, .int .i64 aw] 39)).drewN nq = w1 at *
  have HB : Hid (Buts [q, z] w w1) := Buts.of hbd
  have P1 : Hid (KR s w1 q z (.slice none 0 0) v T) := HK.out.below hbd
  have S1 : Hid (s ≤ w1.heap.size) := Nat.le_trans HS.out hbd.size
  have d5 := P1.out.c.2.2.2.2.2.1
  have df := P1.out.head.free 5
  have QX : q ≠ w.heap.size := by omega
  have XQ : w.heap.size ≠ q := fun e => QX e.symm
  have ql := Nat.lt_trans hlt hXl
  clear hbd c1 c5 hlt A1 nq
  generalize w.heap.size = X at *
  have hd0 : Below w1.heap.size w1 w1.drew := (Below.refl _ w1).drew
  have hd1 : Below w1.heap.size w1 (w1.alloc (.cells #[.int .u32 av] 23)).drew := (alloc_below w1 _).drew
  go_wp2
  go_region_law (first
    | (refine step_own rfl (.tmp 63) (.tmp 66) rfl w1.heap.size (.slice none 0 0) 0 [] rfl (World.ownsRow_nil _ _ _ _) w1.heap.size 0 1 1 [av] rfl rfl (by omega) (by omega) (one_cell w1 av) hd1.size ?_; intro g2 c2 w2 ho2 hb2 _; obtain ⟨c2', f2, k2, b2⟩ := P1.out.rowset S1.out (ys := [av]) rfl (by simp) ho2 (hd1.trans hb2); have HN : Hid ((∃ u2, KR s (w2.setCell ⟨q, 5, none⟩ (.slice (some ⟨g2, 0, none⟩) (0 + 1) c2)) q z u2 v { T with xs := [av] }) ∧ Buts [q, z] w1 (w2.setCell ⟨q, 5, none⟩ (.slice (some ⟨g2, 0, none⟩) (0 + 1) c2))) := ⟨k2, b2⟩; clear k2 b2; clear ho2 hb2))
  all_goals
    go_wp2
    go_ret2
    exact ⟨rfl, HN.out.1, HB.out.trans HN.out.2⟩
set_option maxHeartbeats 8000000 in
theorem kput_more {s : Nat} {w : World} {q z : Nat} {u v : Value} {T : Sx} (h : KR s w q z u v T) (hs : s ≤ w.heap.size) (m : Nat) (hm : T.a = (m : Nat)) (hm2 : m ≤ 64) (xs : List Int) (h0 : T.xs = xs) (h1 : xs ≠ []) (h2 : xs.length < m) (who ah av am aw : Int) :
    Calls Tryz.prog 22 #[.pointer (some ⟨q, 0, none⟩), .int .u32 who, .agg #[.int .u8 7, .int .u32 ah, .int .u32 av, .int .u32 am, .int .i64 aw]] w (KAns s w q z v (0, 0, { T with xs := xs ++ [av] })) := by
  have A1 : Hid (Below w.heap.size w (w.alloc (.cells #[.int .u8 7, .int .u32 ah, .int .u32 av, .int .u32 am, .int .i64 aw] 39))) := alloc_below w _
  have HK : Hid (KR s w q z u v T) := h
  have HS : Hid (s ≤ w.heap.size) := hs
  obtain ⟨_, c1, _, _, _, c5, _⟩ := h.c
  have hlt := h.head.lt
  rw [hm] at c1
  have hwr := wrap_a (n := m) (by omega)
  unfold KAns
  have hr := h.row
  rw [h0] at hr
  obtain ⟨g, cap, hu, -, -⟩ := owns_spot hr (by cases xs <;> simp_all)
  subst hu
  obtain ⟨n, hn⟩ : ∃ n, xs.length = n := ⟨_, rfl⟩
  have HC : Hid (∀ i, i < n → w.cell? ⟨g, 0 + i, none⟩ = some (.int .u32 (xs.getD i 0))) := fun i hi => by
    rw [Nat.zero_add, World.ownsRow.cellAt hr i (by omega)]
    exact wrd_at xs i (by omega)
  have gl := (World.ownsRow.lt hr g rfl).2
  rw [hn] at h2 c5 HK
  have HM : Hid (xs.length = n) := hn
  have n0 : 0 < n := by cases xs <;> simp_all; omega
  have hd : decide ((m : Int) ≤ (n : Int)) = false := by simp; omega
  have hd2 : ¬ (m : Int) ≤ (n : Int) := by omega
  have hd3 : decide (m ≤ n) = false := by simp; omega
  clear h hm h0 hs h1 hn hr
  go_enter Tryz.func22, Tryz.ntmps22
  go_wp2
  go_quiet ((fail))
  have hbd : Below w.heap.size w ((w.alloc (.cells #[.int .u8 7, .int .u32 ah, .int .u32 av, .int .u32 am, .int .i64 aw] 39)).drewN nq) := A1.out.trans ((below_drewN _ _).mono A1.out.size)
  have hX : ((w.alloc (.cells #[.int .u8 7, .int .u32 ah, .int .u32 av, .int .u32 am, .int .i64 aw] 39)).drewN nq).cell? ⟨w.heap.size, 2, none⟩ = some (.int .u32 av) := (askc w 7 ah av am aw).1
  have hX0 : ((w.alloc (.cells #[.int .u8 7, .int .u32 ah, .int .u32 av, .int .u32 am, .int .i64 aw] 39)).drewN nq).cell? ⟨w.heap.size, 0, none⟩ = some (.int .u8 7) := by show (w.alloc _).cell? _ = _; rw [cell_of (alloc_at w _)]; rfl
  have hXl : w.heap.size < ((w.alloc (.cells #[.int .u8 7, .int .u32 ah, .int .u32 av, .int .u32 am, .int .i64 aw] 39)).drewN nq).heap.size := by show _ < (w.alloc _).heap.size; rw [alloc_size]; omega
  generalize (w.alloc (.cells #[.int .u8 7, .int .u32 ah, .int .u32 av, .int .u32 am, .int .i64 aw] 39)).drewN nq = w1 at *
  have HB : Hid (Buts [q, z] w w1) := Buts.of hbd
  have P1 : Hid (KR s w1 q z (.slice (some ⟨g, 0, none⟩) n cap) v T) := HK.out.below hbd
  have S1 : Hid (s ≤ w1.heap.size) := Nat.le_trans HS.out hbd.size
  have d5 := P1.out.c.2.2.2.2.2.1
  have df := P1.out.head.free 5
  have QX : q ≠ w.heap.size := by omega
  have XQ : w.heap.size ≠ q := fun e => QX e.symm
  have ql := Nat.lt_trans hlt hXl
  have HC1 : Hid (∀ W, Below w1.heap.size w1 W → ∀ i, i < n → W.cell? ⟨g, 0 + i, none⟩ = some (.int .u32 (xs.getD i 0))) := fun W hb i hi => by
    rw [hb.cell (p := ⟨g, 0 + i, none⟩) (Nat.lt_of_lt_of_le gl hbd.size), hbd.cell (p := ⟨g, 0 + i, none⟩) gl]
    exact HC.out i hi
  clear hbd c1 c5 hlt A1 nq HC gl
  generalize w.heap.size = X at *
  have hd0 : Below w1.heap.size w1 w1.drew := (Below.refl _ w1).drew
  have hd1 : Below w1.heap.size w1 (w1.alloc (.cells #[.int .u32 av] 23)).drew := (alloc_below w1 _).drew
  go_wp2
  go_region_law (first
    | (refine step_own rfl (.tmp 63) (.tmp 66) rfl w1.heap.size (.slice (some ⟨g1, 0, none⟩) n cc1) n xs rfl H1.out.1 w1.heap.size 0 1 1 [av] rfl rfl (by omega) (by omega) HONE.out (Nat.le_trans hd1.size H1.out.2.2) ?_; intro g2 c2 w2 ho2 hb2 _; obtain ⟨c2', f2, k2, b2⟩ := P1.out.rowset S1.out (ys := xs ++ [av]) (by rw [List.length_append, HM.out]; rfl) (by simp) ho2 (H1.out.2.1.trans hb2); have HN : Hid ((∃ u2, KR s (w2.setCell ⟨q, 5, none⟩ (.slice (some ⟨g2, 0, none⟩) (n + 1) c2)) q z u2 v { T with xs := xs ++ [av] }) ∧ Buts [q, z] w1 (w2.setCell ⟨q, 5, none⟩ (.slice (some ⟨g2, 0, none⟩) (n + 1) c2))) := ⟨k2, b2⟩; clear k2 b2; clear ho2 hb2 HONE)
    | (refine step_own rfl (.tmp 63) (.tmp 66) rfl w1.heap.size (.slice (some ⟨g1, 0, none⟩) n cc1) n xs rfl (H1.out.1.alloc _) wa.heap.size 0 1 1 [av] rfl rfl (by omega) (by omega) (one_cell wa av) (Nat.le_trans H1.out.2.1.size (alloc_below wa _).size) ?_; intro g2 c2 w2 ho2 hb2 _; obtain ⟨c2', f2, k2, b2⟩ := P1.out.rowset S1.out (ys := xs ++ [av]) (by rw [List.length_append, HM.out]; rfl) (by simp) ho2 ((H1.out.2.1.trans ((alloc_below wa _).mono H1.out.2.1.size)).trans hb2); have HN : Hid ((∃ u2, KR s (w2.setCell ⟨q, 5, none⟩ (.slice (some ⟨g2, 0, none⟩) (n + 1) c2)) q z u2 v { T with xs := xs ++ [av] }) ∧ Buts [q, z] w1 (w2.setCell ⟨q, 5, none⟩ (.slice (some ⟨g2, 0, none⟩) (n + 1) c2))) := ⟨k2, b2⟩; clear k2 b2; clear ho2 hb2)
    | (refine step_own rfl (.const (.slice none 0 0)) (.tmp 62) rfl w1.heap.size (.slice none 0 0) 0 [] rfl (World.ownsRow_nil _ _ _ _) g 0 n cap xs rfl HM.out (by omega) (by omega) (HC1.out ((w1.alloc (.cells #[.int .u32 av] 23)).drew) hd1) hd1.size ?_; intro g1 cc1 wa ho1 hb1 hbb; rw [Nat.zero_add]; rw [Nat.zero_add] at ho1; have H1 : Hid (wa.ownsRow w1.heap.size 23 1 (.slice (some ⟨g1, 0, none⟩) n cc1) n (xs.map (Value.int .u32)) ∧ Below w1.heap.size w1 wa ∧ (w1.alloc (.cells #[.int .u32 av] 23)).drew.heap.size ≤ wa.heap.size) := ⟨ho1, hd1.trans hb1, (hbb rfl).size⟩; have HONE : Hid (∀ i, i < 1 → wa.cell? ⟨w1.heap.size, 0 + i, none⟩ = some (.int .u32 (([av] : List Int).getD i 0))) := (fun i hi => by rw [(hbb rfl).cell (p := ⟨w1.heap.size, 0 + i, none⟩) (by show _ < (w1.alloc (.cells #[.int .u32 av] 23)).heap.size; rw [alloc_size]; exact Nat.lt_succ_self _)]; exact one_cell w1 av i hi); have hXa : wa.cell? ⟨X, 2, none⟩ = some (.int .u32 av) := (by rw [(hd1.trans hb1).cell (p := ⟨X, 2, none⟩) hXl]; exact hX); clear ho1 hb1 hbb)
    | (refine step_own rfl (.const (.slice none 0 0)) (.tmp 62) rfl w1.heap.size (.slice none 0 0) 0 [] rfl (World.ownsRow_nil _ _ _ _) g 0 n cap xs rfl HM.out (by omega) (by omega) (HC1.out w1.drew hd0) hd0.size ?_; intro g1 cc1 wa ho1 hb1 hbb; rw [Nat.zero_add]; rw [Nat.zero_add] at ho1; have H1 : Hid (wa.ownsRow w1.heap.size 23 1 (.slice (some ⟨g1, 0, none⟩) n cc1) n (xs.map (Value.int .u32)) ∧ Below w1.heap.size w1 wa ∧ w1.drew.heap.size ≤ wa.heap.size) := ⟨ho1, hd0.trans hb1, (hbb rfl).size⟩; have hXa : wa.cell? ⟨X, 2, none⟩ = some (.int .u32 av) := (by rw [(hd0.trans hb1).cell (p := ⟨X, 2, none⟩) hXl]; exact hX); clear ho1 hb1 hbb))
  all_goals
    go_wp2
    go_ret2
    exact ⟨rfl, HN.out.1, HB.out.trans HN.out.2⟩
theorem set_past (w : World) (o : Obj) (q k : Nat) (v : Value) (h : q < w.heap.size) : (w.alloc o).drew.setCell ⟨q, k, none⟩ v = ((w.setCell ⟨q, k, none⟩ v).alloc o).drew := by
  rw [← World.setCell_alloc_past (w := w) o q k v h]
  rfl
set_option maxHeartbeats 8000000 in
theorem kpush_nil {s : Nat} {w : World} {q z : Nat} {u v : Value} {T : Sx} (h : KR s w q z u v T) (hs : s ≤ w.heap.size) (m : Nat) (hm : T.a = (m : Nat)) (hm2 : m ≤ 64) (h0 : T.xs = []) (h1 : 1 ≤ m) (who ah av am aw : Int) :
    Calls Tryz.prog 22 #[.pointer (some ⟨q, 0, none⟩), .int .u32 who, .agg #[.int .u8 8, .int .u32 ah, .int .u32 av, .int .u32 am, .int .i64 aw]] w (KAns s w q z v (0, 0, { T with xs := [av] })) := by
  have A1 : Hid (Below w.heap.size w (w.alloc (.cells #[.int .u8 8, .int .u32 ah, .int .u32 av, .int .u32 am, .int .i64 aw] 39))) := alloc_below w _
  have HK : Hid (KR s w q z u v T) := h
  have HS : Hid (s ≤ w.heap.size) := hs
  obtain ⟨_, c1, _, _, _, c5, _⟩ := h.c
  have hlt := h.head.lt
  rw [hm] at c1
  have hwr := wrap_a (n := m) (by omega)
  unfold KAns
  have hu := h.emp h0
  subst hu
  have hd : decide ((m : Int) ≤ 0) = false := by simp; omega
  have hd2 : ¬ (m : Int) ≤ 0 := by omega
  clear h hm h0 hs
  go_enter Tryz.func22, Tryz.ntmps22
  go_wp2
  go_quiet ((fail))
  have hbd : Below w.heap.size w ((w.alloc (.cells #[.int .u8 8, .int .u32 ah, .int .u32 av, .int .u32 am, .int .i64 aw] 39)).drewN nq) := A1.out.trans ((below_drewN _ _).mono A1.out.size)
  have hX : ((w.alloc (.cells #[.int .u8 8, .int .u32 ah, .int .u32 av, .int .u32 am, .int .i64 aw] 39)).drewN nq).cell? ⟨w.heap.size, 2, none⟩ = some (.int .u32 av) := (askc w 8 ah av am aw).1
  have hX0 : ((w.alloc (.cells #[.int .u8 8, .int .u32 ah, .int .u32 av, .int .u32 am, .int .i64 aw] 39)).drewN nq).cell? ⟨w.heap.size, 0, none⟩ = some (.int .u8 8) := by show (w.alloc _).cell? _ = _; rw [cell_of (alloc_at w _)]; rfl
  have hXl : w.heap.size < ((w.alloc (.cells #[.int .u8 8, .int .u32 ah, .int .u32 av, .int .u32 am, .int .i64 aw] 39)).drewN nq).heap.size := by show _ < (w.alloc _).heap.size; rw [alloc_size]; omega
  generalize (w.alloc (.cells #[.int .u8 8, .int .u32 ah, .int .u32 av, .int .u32 am, .int .i64 aw] 39)).drewN nq = w1 at *
  have HB : Hid (Buts [q, z] w w1) := Buts.of hbd
  have P1 : Hid (KR s w1 q z (.slice none 0 0) v T) := HK.out.below hbd
  have S1 : Hid (s ≤ w1.heap.size) := Nat.le_trans HS.out hbd.size
  have d5 := P1.out.c.2.2.2.2.2.1
  have df := P1.out.head.free 5
  have QX : q ≠ w.heap.size := by omega
  have XQ : w.heap.size ≠ q := fun e => QX e.symm
  have ql := Nat.lt_trans hlt hXl
  clear hbd c1 c5 hlt A1 nq
  generalize w.heap.size = X at *
  have hd1 : Below w1.heap.size w1 (w1.alloc (.cells #[.int .u32 av] 23)).drew := (alloc_below w1 _).drew
  go_wp2
  go_region
  all_goals
    go_wp2
    go_ret2
    obtain ⟨c2', f2, k2, b2⟩ := P1.out.rowset S1.out (ys := [av]) rfl (by simp) (lit_own w1 av) hd1
    rw [set_past w1 (.cells #[.int .u32 av] 23) q 5 (.slice (some ⟨w1.heap.size, 0, none⟩) 1 1) ql] at k2 b2
    exact ⟨rfl, k2, HB.out.trans b2⟩
set_option maxHeartbeats 8000000 in
theorem kpush_more {s : Nat} {w : World} {q z : Nat} {u v : Value} {T : Sx} (h : KR s w q z u v T) (hs : s ≤ w.heap.size) (m : Nat) (hm : T.a = (m : Nat)) (hm2 : m ≤ 64) (xs : List Int) (h0 : T.xs = xs) (h1 : xs ≠ []) (h2 : xs.length < m) (who ah av am aw : Int) :
    Calls Tryz.prog 22 #[.pointer (some ⟨q, 0, none⟩), .int .u32 who, .agg #[.int .u8 8, .int .u32 ah, .int .u32 av, .int .u32 am, .int .i64 aw]] w (KAns s w q z v (0, 0, { T with xs := av :: xs })) := by
  have A1 : Hid (Below w.heap.size w (w.alloc (.cells #[.int .u8 8, .int .u32 ah, .int .u32 av, .int .u32 am, .int .i64 aw] 39))) := alloc_below w _
  have HK : Hid (KR s w q z u v T) := h
  have HS : Hid (s ≤ w.heap.size) := hs
  obtain ⟨_, c1, _, _, _, c5, _⟩ := h.c
  have hlt := h.head.lt
  rw [hm] at c1
  have hwr := wrap_a (n := m) (by omega)
  unfold KAns
  have hr := h.row
  rw [h0] at hr
  obtain ⟨g, cap, hu, -, -⟩ := owns_spot hr (by cases xs <;> simp_all)
  subst hu
  obtain ⟨n, hn⟩ : ∃ n, xs.length = n := ⟨_, rfl⟩
  have HC : Hid (∀ i, i < n → w.cell? ⟨g, 0 + i, none⟩ = some (.int .u32 (xs.getD i 0))) := fun i hi => by
    rw [Nat.zero_add, World.ownsRow.cellAt hr i (by omega)]
    exact wrd_at xs i (by omega)
  have gl := (World.ownsRow.lt hr g rfl).2
  rw [hn] at h2 c5 HK
  have HM : Hid (xs.length = n) := hn
  have n0 : 0 < n := by cases xs <;> simp_all; omega
  have hd : decide ((m : Int) ≤ (n : Int)) = false := by simp; omega
  have hd2 : ¬ (m : Int) ≤ (n : Int) := by omega
  have hd3 : decide (m ≤ n) = false := by simp; omega
  clear h hm h0 hs h1 hn hr
  go_enter Tryz.func22, Tryz.ntmps22
  go_wp2
  go_quiet ((fail))
  have hbd : Below w.heap.size w ((w.alloc (.cells #[.int .u8 8, .int .u32 ah, .int .u32 av, .int .u32 am, .int .i64 aw] 39)).drewN nq) := A1.out.trans ((below_drewN _ _).mono A1.out.size)
  have hX : ((w.alloc (.cells #[.int .u8 8, .int .u32 ah, .int .u32 av, .int .u32 am, .int .i64 aw] 39)).drewN nq).cell? ⟨w.heap.size, 2, none⟩ = some (.int .u32 av) := (askc w 8 ah av am aw).1
  have hX0 : ((w.alloc (.cells #[.int .u8 8, .int .u32 ah, .int .u32 av, .int .u32 am, .int .i64 aw] 39)).drewN nq).cell? ⟨w.heap.size, 0, none⟩ = some (.int .u8 8) := by show (w.alloc _).cell? _ = _; rw [cell_of (alloc_at w _)]; rfl
  have hXl : w.heap.size < ((w.alloc (.cells #[.int .u8 8, .int .u32 ah, .int .u32 av, .int .u32 am, .int .i64 aw] 39)).drewN nq).heap.size := by show _ < (w.alloc _).heap.size; rw [alloc_size]; omega
  generalize (w.alloc (.cells #[.int .u8 8, .int .u32 ah, .int .u32 av, .int .u32 am, .int .i64 aw] 39)).drewN nq = w1 at *
  have HB : Hid (Buts [q, z] w w1) := Buts.of hbd
  have P1 : Hid (KR s w1 q z (.slice (some ⟨g, 0, none⟩) n cap) v T) := HK.out.below hbd
  have S1 : Hid (s ≤ w1.heap.size) := Nat.le_trans HS.out hbd.size
  have d5 := P1.out.c.2.2.2.2.2.1
  have df := P1.out.head.free 5
  have QX : q ≠ w.heap.size := by omega
  have XQ : w.heap.size ≠ q := fun e => QX e.symm
  have ql := Nat.lt_trans hlt hXl
  have HC1 : Hid (∀ W, Below w1.heap.size w1 W → ∀ i, i < n → W.cell? ⟨g, 0 + i, none⟩ = some (.int .u32 (xs.getD i 0))) := fun W hb i hi => by
    rw [hb.cell (p := ⟨g, 0 + i, none⟩) (Nat.lt_of_lt_of_le gl hbd.size), hbd.cell (p := ⟨g, 0 + i, none⟩) gl]
    exact HC.out i hi
  clear hbd c1 c5 hlt A1 nq HC gl
  generalize w.heap.size = X at *
  have hd1 : Below w1.heap.size w1 (w1.alloc (.cells #[.int .u32 av] 23)).drew := (alloc_below w1 _).drew
  go_wp2
  go_region_law (first
    | (refine step_own rfl (.tmp 73) (.tmp 77) rfl w1.heap.size (.slice (some ⟨w1.heap.size, 0, none⟩) 1 1) 1 [av] rfl (lit_own w1 av) g 0 n cap xs rfl HM.out (by omega) (by omega) (HC1.out ((w1.alloc (.cells #[.int .u32 av] 23)).drew) hd1) hd1.size ?_; intro g2 c2 w2 ho2 hb2 _; rw [Nat.add_comm 1 n]; rw [Nat.add_comm 1 n] at ho2; obtain ⟨c2', f2, k2, b2⟩ := P1.out.rowset S1.out (ys := av :: xs) (by rw [List.length_cons, HM.out]) (by simp) ho2 (hd1.trans hb2); have HN : Hid ((∃ u2, KR s (w2.setCell ⟨q, 5, none⟩ (.slice (some ⟨g2, 0, none⟩) (n + 1) c2)) q z u2 v { T with xs := av :: xs }) ∧ Buts [q, z] w1 (w2.setCell ⟨q, 5, none⟩ (.slice (some ⟨g2, 0, none⟩) (n + 1) c2))) := ⟨k2, b2⟩; clear k2 b2; clear ho2 hb2))
  all_goals
    go_wp2
    go_ret2
    exact ⟨rfl, HN.out.1, HB.out.trans HN.out.2⟩
set_option maxHeartbeats 8000000 in
theorem kget_nil {s : Nat} {w : World} {q z : Nat} {u v : Value} {T : Sx} (h : KR s w q z u v T) (hs : s ≤ w.heap.size) (h0 : T.xs = []) (who ah av am aw : Int) :
    Calls Tryz.prog 22 #[.pointer (some ⟨q, 0, none⟩), .int .u32 who, .agg #[.int .u8 9, .int .u32 ah, .int .u32 av, .int .u32 am, .int .i64 aw]] w (KAns s w q z v (0, 7, T)) := by
  have A1 : Hid (Below w.heap.size w (w.alloc (.cells #[.int .u8 9, .int .u32 ah, .int .u32 av, .int .u32 am, .int .i64 aw] 39))) := alloc_below w _
  have HK : Hid (KR s w q z u v T) := h
  obtain ⟨_, _, _, _, _, c5, _⟩ := h.c
  have hlt := h.head.lt
  unfold KAns
  rw [h.emp h0] at c5
  clear h
  go_enter Tryz.func22, Tryz.ntmps22
  go_wp2
  go_ret2
  exact ⟨rfl, HK.out.same A1.out⟩
set_option maxHeartbeats 8000000 in
theorem kget_one {s : Nat} {w : World} {q z : Nat} {u v : Value} {T : Sx} (h : KR s w q z u v T) (hs : s ≤ w.heap.size) (x : Int) (h0 : T.xs = [x]) (who ah av am aw : Int) :
    Calls Tryz.prog 22 #[.pointer (some ⟨q, 0, none⟩), .int .u32 who, .agg #[.int .u8 9, .int .u32 ah, .int .u32 av, .int .u32 am, .int .i64 aw]] w (KAns s w q z v (x, 0, { T with xs := [] })) := by
  have A1 : Hid (Below w.heap.size w (w.alloc (.cells #[.int .u8 9, .int .u32 ah, .int .u32 av, .int .u32 am, .int .i64 aw] 39))) := alloc_below w _
  have HK : Hid (KR s w q z u v T) := h
  obtain ⟨_, _, _, _, _, c5, _⟩ := h.c
  have hlt := h.head.lt
  unfold KAns
  have hr := h.row
  rw [h0] at hr
  obtain ⟨g, cap, hu, hcap, -⟩ := owns_spot hr (by simp)
  subst hu
  have k0 : w.cell? ⟨g, 0, none⟩ = some (.int .u32 x) := by
    rw [World.ownsRow.cellAt hr 0 (by simp)]; rfl
  have gl := (World.ownsRow.lt hr g rfl).2
  have P1 : Hid (KR s (w.alloc (.cells #[.int .u8 9, .int .u32 ah, .int .u32 av, .int .u32 am, .int .i64 aw] 39)) q z (.slice (some ⟨g, 0, none⟩) 1 cap) v T) := by have := HK.out.below A1.out; rwa [show (x :: []).length = 1 from rfl] at this
  have S1 : Hid (s ≤ (w.alloc (.cells #[.int .u8 9, .int .u32 ah, .int .u32 av, .int .u32 am, .int .i64 aw] 39)).heap.size) := Nat.le_trans hs A1.out.size
  have f5 := h.head.free 5
  have HEND := h.rowset hs (w2 := w) (u' := .slice none 0 0) (n := 0) (ys := []) rfl (fun _ => rfl) (World.ownsRow_nil _ _ _ _) (Below.refl _ _)
  have HE : Hid ((∃ u2, KR s (w.setCell ⟨q, 5, none⟩ (.slice none 0 0)) q z u2 v { T with xs := [] }) ∧ Buts [q, z] w (w.setCell ⟨q, 5, none⟩ (.slice none 0 0))) := HEND.2.2
  have hb := alloc_below (w.setCell ⟨q, 5, none⟩ (.slice none 0 0)) (.cells #[.int .u8 9, .int .u32 ah, .int .u32 av, .int .u32 am, .int .i64 aw] 39)
  have HB : Hid (_) := hb
  replace c5 : w.cell? ⟨q, 5, none⟩ = some (.slice (some ⟨g, 0, none⟩) 1 cap) := c5
  clear h hr HEND hb P1 HK h0 hs S1
  by_cases hc1 : cap = 1
  · subst hc1
    go_enter Tryz.func22, Tryz.ntmps22
    go_wp2
    go_ret2
    obtain ⟨⟨u2, k2⟩, b2⟩ := HE.out
    exact ⟨rfl, ⟨u2, k2.below HB.out⟩, b2.trans (Buts.of HB.out)⟩
  · have hcc : 1 ≤ cap := by simpa using hcap
    go_enter Tryz.func22, Tryz.ntmps22
    go_wp2
    go_ret2
    obtain ⟨⟨u2, k2⟩, b2⟩ := HE.out
    exact ⟨rfl, ⟨u2, k2.below HB.out⟩, b2.trans (Buts.of HB.out)⟩
set_option maxHeartbeats 8000000 in
theorem kget_more {s : Nat} {w : World} {q z : Nat} {u v : Value} {T : Sx} (h : KR s w q z u v T) (hs : s ≤ w.heap.size) (x : Int) (xs : List Int) (h0 : T.xs = x :: xs) (h1 : xs ≠ []) (h2 : xs.length < 64) (who ah av am aw : Int) :
    Calls Tryz.prog 22 #[.pointer (some ⟨q, 0, none⟩), .int .u32 who, .agg #[.int .u8 9, .int .u32 ah, .int .u32 av, .int .u32 am, .int .i64 aw]] w (KAns s w q z v (x, 0, { T with xs := xs })) := by
  have A1 : Hid (Below w.heap.size w (w.alloc (.cells #[.int .u8 9, .int .u32 ah, .int .u32 av, .int .u32 am, .int .i64 aw] 39))) := alloc_below w _
  have HK : Hid (KR s w q z u v T) := h
  obtain ⟨_, _, _, _, _, c5, _⟩ := h.c
  have hlt := h.head.lt
  unfold KAns
  have hr := h.row
  rw [h0] at hr
  obtain ⟨g, cap, hu, hcap, -⟩ := owns_spot hr (by simp)
  subst hu
  have k0 : w.cell? ⟨g, 0, none⟩ = some (.int .u32 x) := by
    rw [World.ownsRow.cellAt hr 0 (by simp)]; rfl
  have gl := (World.ownsRow.lt hr g rfl).2
  obtain ⟨n, hn⟩ : ∃ n, xs.length = n := ⟨_, rfl⟩
  have HM : Hid (xs.length = n) := hn
  have n0 : 0 < n := by cases xs <;> simp_all; omega
  have HC : Hid (∀ j u, (xs.map (Value.int .u32))[j]? = some u → (w.alloc (.cells #[.int .u8 9, .int .u32 ah, .int .u32 av, .int .u32 am, .int .i64 aw] 39)).cell? ((⟨g, 1, none⟩ : Addr).add j) = some u) := by
    show ∀ j u, _ → _
    refine src_news (fun _ => ⟨g, 1, rfl, fun i hi => ?_⟩)
    rw [A1.out.cell (p := ⟨g, 1 + i, none⟩) gl, World.ownsRow.cellAt hr (1 + i) (by simp; omega), Nat.add_comm 1 i]
    exact (wrd_at (x :: xs) (i + 1) (by simp; omega)).trans (by simp)
  replace c5 : w.cell? ⟨q, 5, none⟩ = some (.slice (some ⟨g, 0, none⟩) (n + 1) cap) := by rw [← hn]; exact c5
  have hcc : n + 1 ≤ cap := by rw [← hn]; simpa using hcap
  have hc1 : ¬ cap = 1 := by omega
  have hc2 : 1 ≤ cap := by omega
  have D1 : Hid ((xs.map (Value.int .u32)).length = n * 1) := by show _ = _; simp [hn]
  have P1 : Hid (KR s (w.alloc (.cells #[.int .u8 9, .int .u32 ah, .int .u32 av, .int .u32 am, .int .i64 aw] 39)) q z (.slice (some ⟨g, 0, none⟩) (x :: xs).length cap) v T) := HK.out.below A1.out
  have S1 : Hid (s ≤ (w.alloc (.cells #[.int .u8 9, .int .u32 ah, .int .u32 av, .int .u32 am, .int .i64 aw] 39)).heap.size) := Nat.le_trans hs A1.out.size
  have hn1 : (((n + 1 : Nat) : Int) == 0) = false := by simp; omega
  have hn3 : (((n : Nat) : Int) + 1 == 0) = false := by simp; omega
  have hn2 : (0 : Int) < ((n : Nat) : Int) + 1 := by omega
  have hzl := alloc_size w (.cells #[.int .u8 9, .int .u32 ah, .int .u32 av, .int .u32 am, .int .i64 aw] 39)
  obtain ⟨i0, hi, hz0, hz1, hz2⟩ := info_parts infoW
  rw [hn] at h2
  clear h hr HK hn
  go_enter Tryz.func22, Tryz.ntmps22
  go_wp2_with (first
    | (at_builtin; refine wpList_append_own _ rfl _ _ 53 rfl (w.alloc (.cells #[.int .u8 9, .int .u32 ah, .int .u32 av, .int .u32 am, .int .i64 aw] 39)).heap.size 23 i0 (.int .u32 0) 1 4 Tryz.underlying53 hi hz0 hz1 hz2 rfl (by decide) (.slice none 0 0) 0 [] rfl (World.ownsRow_nil _ _ _ _) ⟨g, 1, none⟩ n (cap - 1) (xs.map (Value.int .u32)) rfl D1.out HC.out (ints_one _) (by simp only [maxLen]; omega) (by omega) (Nat.le_refl _) ?_; intro v' w2 ho hg _; rw [Nat.zero_add, List.nil_append] at ho; obtain ⟨g2, c2, rfl, -, -⟩ := owns_spot ho n0; have hb2 : Below (w.alloc (.cells #[.int .u8 9, .int .u32 ah, .int .u32 av, .int .u32 am, .int .i64 aw] 39)).heap.size (w.alloc (.cells #[.int .u8 9, .int .u32 ah, .int .u32 av, .int .u32 am, .int .i64 aw] 39)) w2 := (Buts.grown hg).below (fun x hx => (by simp [Value.ownBlock] at hx)) (Nat.le_refl _); obtain ⟨k5, f5, k2, b2⟩ := P1.out.rowset S1.out (ys := xs) HM.out (fun e => absurd e h1) ho hb2; have HN : Hid ((∃ u2, KR s (w2.setCell ⟨q, 5, none⟩ (.slice (some ⟨g2, 0, none⟩) n c2)) q z u2 v { T with xs := xs }) ∧ Buts [q, z] (w.alloc (.cells #[.int .u8 9, .int .u32 ah, .int .u32 av, .int .u32 am, .int .i64 aw] 39)) (w2.setCell ⟨q, 5, none⟩ (.slice (some ⟨g2, 0, none⟩) n c2))) := ⟨k2, b2⟩; clear k2 b2 ho hg hb2))
  go_ret2
  exact ⟨rfl, HN.out.1, (Buts.of A1.out).trans HN.out.2⟩
end Go.Proofs.YteicnekoogmmmaaGreatDoor
