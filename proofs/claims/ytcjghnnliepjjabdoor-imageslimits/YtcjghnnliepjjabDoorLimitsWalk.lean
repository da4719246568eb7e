/- 'ImagesLimits', walked. -/
import Derived.Test.YtcjghnnliepjjabDoorTwin
namespace Go.Proofs.YtcjghnnliepjjabDoor
open Go Go.RowKit
set_option maxRecDepth 100000
set_option linter.unusedVariables false
theorem made_ins (n : Nat) : madeCells (Value.agg #[.int .u8 0, .int .u8 0, .int .u8 0, .int .u8 0]).cells (n * 4) = (byt (List.replicate (4 * n) 0)).toArray := by
  apply Array.ext_getElem?
  intro i
  have h4 : i % 4 = 0 ∨ i % 4 = 1 ∨ i % 4 = 2 ∨ i % 4 = 3 := by omega
  by_cases hi : i < n * 4
  · rcases h4 with h | h | h | h <;> simp [madeCells, Value.cells, byt, hi, h, show i < 4 * n by omega]
  · simp [madeCells, Value.cells, byt, hi, show ¬ i < 4 * n by omega]
theorem make_ins (w : World) (c : Nat) (hc : c ≤ 1000000) :
    (Instr.makeSlice 24 (.int .i64 c) (.int .i64 c)).run Tryd.prog w = .ok (.slice (some ⟨w.heap.size, 0, none⟩) c c) (w.alloc (.cells (byt (List.replicate (4 * c) 0)).toArray 45)) := by
  obtain ⟨i, hi, h1, h2, h3⟩ := info_parts infoI
  have := run_make w 24 45 i _ Tryd.underlying24 hi h1 .i64 .i64 c c (by omega) (by omega) (by rw [h3]; omega) (by omega)
  rw [this, h2]
  simp only [Int.toNat_natCast]
  rw [made_ins]
theorem zeros_may (k j : Nat) : mayAll (List.replicate j 0) k = true := by
  rw [mayAll_iff]
  intro i hi
  have g : ∀ q, (List.replicate j (0 : Int)).getD q 0 = 0 := fun q => by
    by_cases h : q < j <;> simp [h]
  unfold mayAt
  rw [g, g, g, g]
  decide +kernel
theorem Bs.zeros (j : Nat) : Bs (List.replicate j 0) := fun z hz => by
  rw [(List.mem_replicate.1 hz).2]; exact ⟨by decide, by decide⟩
/-- what Get answers of bytes that are an image's -/
theorem get_img {w : World} (hE : Env w) {sp : Option Addr} {zs : List Int} (hs : Src w sp zs) (hb : Bs zs) (c : Nat) (hc : zs.length ≤ c) {n : Int} {ds cs : List Int} {k : Nat} (hg : getI zs = some (n, ds, cs, k)) :
    Calls Tryd.prog 10 #[.slice sp zs.length c] w fun e w' => ∃ p pc r rc, e = .returned (.tuple #[.agg #[.int .i64 n, .slice p ds.length pc, .slice r k rc], .int .i64 0]) ∧ (Img w' p ds r cs k ∧ (p = none → pc = 0)) ∧ Below w.heap.size w w' := by
  have h := Get_any hE hs hb c hc
  rw [hg] at h
  obtain ⟨_, _, hl, b1, b2⟩ := put_get hb hg
  refine h.mono fun e w' h => ?_
  obtain ⟨vd, vc, rfl, o1, o2, hbb⟩ := h
  obtain ⟨p, pc, rfl, _⟩ := owns_form o1
  obtain ⟨r, rc, rfl, _⟩ := owns_form o2
  exact ⟨p, pc, r, rc, rfl, ⟨⟨src_own o1, src_own o2, hl, b1, b2⟩, (owns_cap o1).1⟩, hbb⟩
/-- the image of zeros, at its place -/
structure LimSt (w W : World) (n d k M D C : Nat) : Prop where
  b : Below w.heap.size w W
  x : Box W M (.int .i64 n) (.slice (some ⟨D, 0, none⟩) d d) (.slice (some ⟨C, 0, none⟩) k k)
  i : Img W (some ⟨D, 0, none⟩) (List.replicate d 0) (some ⟨C, 0, none⟩) (List.replicate (4 * k) 0) k
theorem at3 (w : World) (o1 o2 o3 : Obj) : (((w.alloc o1).alloc o2).alloc o3).drew.heap[w.heap.size]? = some o1 ∧ (((w.alloc o1).alloc o2).alloc o3).drew.heap[w.heap.size + 1]? = some o2 ∧ (((w.alloc o1).alloc o2).alloc o3).drew.heap[w.heap.size + 1 + 1]? = some o3 ∧ Below w.heap.size w (((w.alloc o1).alloc o2).alloc o3).drew := by
  have z1 : (w.alloc o1).heap.size = w.heap.size + 1 := alloc_size _ _
  have z2 : ((w.alloc o1).alloc o2).heap.size = w.heap.size + 1 + 1 := by rw [alloc_size, z1]
  have z3 : (((w.alloc o1).alloc o2).alloc o3).heap.size = w.heap.size + 1 + 1 + 1 := by rw [alloc_size, z2]
  have a1 := alloc_at w o1
  have a2 := alloc_at (w.alloc o1) o2
  have a3 := alloc_at ((w.alloc o1).alloc o2) o3
  rw [z1] at a2
  rw [z2] at a3
  have b2 := alloc_below (w.alloc o1) o2
  have b3 := alloc_below ((w.alloc o1).alloc o2) o3
  have b4 : Below (((w.alloc o1).alloc o2).alloc o3).heap.size (((w.alloc o1).alloc o2).alloc o3) (((w.alloc o1).alloc o2).alloc o3).drew := (Below.refl _ _).drew
  refine ⟨?_, ?_, ?_, ?_⟩
  · rw [b4.block _ (by omega), b3.block _ (by omega), b2.block _ (by omega)]; exact a1
  · rw [b4.block _ (by omega), b3.block _ (by omega)]; exact a2
  · rw [b4.block _ (by omega)]; exact a3
  · exact on1 (on1 (on1 (alloc_below w o1) b2) b3) b4
theorem lim_mk {w W : World} {n d k M D C : Nat} (hb : Below w.heap.size w W) (hM : W.heap[M]? = some (.cells #[.int .i64 n, .slice (some ⟨D, 0, none⟩) d d, .slice (some ⟨C, 0, none⟩) k k] 26 (0, 0)))
    (hD : W.heap[D]? = some (.cells (byt (List.replicate d 0)).toArray 5 (0, 0))) (hC : W.heap[C]? = some (.cells (byt (List.replicate (4 * k) 0)).toArray 45 (0, 0))) : LimSt w W n d k M D C :=
  ⟨hb, ⟨by rw [cell_of hM]; rfl, by rw [cell_of hM]; rfl, by rw [cell_of hM]; rfl⟩, ⟨row_src (n := 0) (c := 0) hD, row_src (n := 0) (c := 0) hC, by simp, Bs.zeros _, Bs.zeros _⟩⟩
theorem lim_dcm (w : World) (n d k : Nat) : ∃ W D C M, W = (((w.alloc (.cells (byt (List.replicate d 0)).toArray 5)).alloc (.cells (byt (List.replicate (4 * k) 0)).toArray 45)).alloc (.cells #[.int .i64 n, .slice (some ⟨w.heap.size, 0, none⟩) d d, .slice (some ⟨w.heap.size + 1, 0, none⟩) k k] 26)).drew ∧ M = w.heap.size + 1 + 1 ∧ C = w.heap.size + 1 ∧ D = w.heap.size ∧ LimSt w W n d k M D C := by
  obtain ⟨a1, a2, a3, hb⟩ := at3 w (.cells (byt (List.replicate d 0)).toArray 5) (.cells (byt (List.replicate (4 * k) 0)).toArray 45) (.cells #[.int .i64 n, .slice (some ⟨w.heap.size, 0, none⟩) d d, .slice (some ⟨w.heap.size + 1, 0, none⟩) k k] 26)
  exact ⟨_, _, _, _, rfl, rfl, rfl, rfl, lim_mk hb a3 a1 a2⟩
theorem lim_dmc (w : World) (n d k : Nat) : ∃ W D M C, W = (((w.alloc (.cells (byt (List.replicate d 0)).toArray 5)).alloc (.cells #[.int .i64 n, .slice (some ⟨w.heap.size, 0, none⟩) d d, .slice (some ⟨w.heap.size + 1 + 1, 0, none⟩) k k] 26)).alloc (.cells (byt (List.replicate (4 * k) 0)).toArray 45)).drew ∧ C = w.heap.size + 1 + 1 ∧ M = w.heap.size + 1 ∧ D = w.heap.size ∧ LimSt w W n d k M D C := by
  obtain ⟨a1, a2, a3, hb⟩ := at3 w (.cells (byt (List.replicate d 0)).toArray 5) (.cells #[.int .i64 n, .slice (some ⟨w.heap.size, 0, none⟩) d d, .slice (some ⟨w.heap.size + 1 + 1, 0, none⟩) k k] 26) (.cells (byt (List.replicate (4 * k) 0)).toArray 45)
  exact ⟨_, _, _, _, rfl, rfl, rfl, rfl, lim_mk hb a2 a1 a3⟩
theorem lim_cdm (w : World) (n d k : Nat) : ∃ W C D M, W = (((w.alloc (.cells (byt (List.replicate (4 * k) 0)).toArray 45)).alloc (.cells (byt (List.replicate d 0)).toArray 5)).alloc (.cells #[.int .i64 n, .slice (some ⟨w.heap.size + 1, 0, none⟩) d d, .slice (some ⟨w.heap.size, 0, none⟩) k k] 26)).drew ∧ M = w.heap.size + 1 + 1 ∧ D = w.heap.size + 1 ∧ C = w.heap.size ∧ LimSt w W n d k M D C := by
  obtain ⟨a1, a2, a3, hb⟩ := at3 w (.cells (byt (List.replicate (4 * k) 0)).toArray 45) (.cells (byt (List.replicate d 0)).toArray 5) (.cells #[.int .i64 n, .slice (some ⟨w.heap.size + 1, 0, none⟩) d d, .slice (some ⟨w.heap.size, 0, none⟩) k k] 26)
  exact ⟨_, _, _, _, rfl, rfl, rfl, rfl, lim_mk hb a3 a2 a1⟩
theorem lim_cmd (w : World) (n d k : Nat) : ∃ W C M D, W = (((w.alloc (.cells (byt (List.replicate (4 * k) 0)).toArray 45)).alloc (.cells #[.int .i64 n, .slice (some ⟨w.heap.size + 1 + 1, 0, none⟩) d d, .slice (some ⟨w.heap.size, 0, none⟩) k k] 26)).alloc (.cells (byt (List.replicate d 0)).toArray 5)).drew ∧ D = w.heap.size + 1 + 1 ∧ M = w.heap.size + 1 ∧ C = w.heap.size ∧ LimSt w W n d k M D C := by
  obtain ⟨a1, a2, a3, hb⟩ := at3 w (.cells (byt (List.replicate (4 * k) 0)).toArray 45) (.cells #[.int .i64 n, .slice (some ⟨w.heap.size + 1 + 1, 0, none⟩) d d, .slice (some ⟨w.heap.size, 0, none⟩) k k] 26) (.cells (byt (List.replicate d 0)).toArray 5)
  exact ⟨_, _, _, _, rfl, rfl, rfl, rfl, lim_mk hb a2 a3 a1⟩
theorem lim_mdc (w : World) (n d k : Nat) : ∃ W M D C, W = (((w.alloc (.cells #[.int .i64 n, .slice (some ⟨w.heap.size + 1, 0, none⟩) d d, .slice (some ⟨w.heap.size + 1 + 1, 0, none⟩) k k] 26)).alloc (.cells (byt (List.replicate d 0)).toArray 5)).alloc (.cells (byt (List.replicate (4 * k) 0)).toArray 45)).drew ∧ C = w.heap.size + 1 + 1 ∧ D = w.heap.size + 1 ∧ M = w.heap.size ∧ LimSt w W n d k M D C := by
  obtain ⟨a1, a2, a3, hb⟩ := at3 w (.cells #[.int .i64 n, .slice (some ⟨w.heap.size + 1, 0, none⟩) d d, .slice (some ⟨w.heap.size + 1 + 1, 0, none⟩) k k] 26) (.cells (byt (List.replicate d 0)).toArray 5) (.cells (byt (List.replicate (4 * k) 0)).toArray 45)
  exact ⟨_, _, _, _, rfl, rfl, rfl, rfl, lim_mk hb a1 a2 a3⟩
theorem lim_mcd (w : World) (n d k : Nat) : ∃ W M C D, W = (((w.alloc (.cells #[.int .i64 n, .slice (some ⟨w.heap.size + 1 + 1, 0, none⟩) d d, .slice (some ⟨w.heap.size + 1, 0, none⟩) k k] 26)).alloc (.cells (byt (List.replicate (4 * k) 0)).toArray 45)).alloc (.cells (byt (List.replicate d 0)).toArray 5)).drew ∧ D = w.heap.size + 1 + 1 ∧ C = w.heap.size + 1 ∧ M = w.heap.size ∧ LimSt w W n d k M D C := by
  obtain ⟨a1, a2, a3, hb⟩ := at3 w (.cells #[.int .i64 n, .slice (some ⟨w.heap.size + 1 + 1, 0, none⟩) d d, .slice (some ⟨w.heap.size + 1, 0, none⟩) k k] 26) (.cells (byt (List.replicate (4 * k) 0)).toArray 45) (.cells (byt (List.replicate d 0)).toArray 5)
  exact ⟨_, _, _, _, rfl, rfl, rfl, rfl, lim_mk hb a1 a3 a2⟩
set_option maxHeartbeats 8000000 in
theorem limits_yes {w : World} (hE : Env3 w) {a b c : Int} {x y : Nat} {r : Int} {n k d : Nat} (ha : Int.tmod a 10 = x) (hb : Int.tmod b 10 = y) (hc : Int.tmod c 3 = r) (hab : 0 ≤ a ∧ a ≤ 255) (hbb : 0 ≤ b ∧ b ≤ 255) (hcb : -128 ≤ c ∧ c ≤ 127) (hx : x ≤ 9) (hy : y ≤ 9) (hn : (n : Int) = 4091 + x) (hk : (k : Int) = 1019 + y) (hd : (d : Int) = n + r) (hd0 : 4000 ≤ d ∧ d ≤ 5000) (q1 : (n : Int) ≤ 4096) (q2 : (k : Int) ≤ 1024) (q3 : (d : Int) ≤ n) :
    Calls Tryd.prog 3 #[.int .u8 a, .int .u8 b, .int .i8 c] w fun e w' => e = .returned (.bool true) ∧ Below w.heap.size w w' := by
  have m1 := fun W => make_zero W d d (Nat.le_refl _) (by omega)
  have m2 := fun W => make_ins W k (by omega)
  have e1 : 4091 + (x : Int) = n := hn.symm
  have e2 : 1019 + (y : Int) = k := hk.symm
  have e3 : (n : Int) + r = d := hd.symm
  have hlt : (0 : Int) < d := by omega
  have ho : okI n (List.replicate d 0) (List.replicate (4 * k) 0) k = true := by
    exact (okI_iff _ _ _ _).2 ⟨⟨by omega, by omega, by simp; omega, by omega⟩, zeros_may _ _⟩
  have hdl : d ≤ 1000000 := by omega
  have hkl : k ≤ 1000000 := by omega
  have hrl : (List.replicate d (0 : Int)).length = d := by simp
  have HE : Hid (Env3 w) := hE
  have HO : Hid (okI n (List.replicate d 0) (List.replicate (4 * k) 0) k = true) := ho
  have HR : Hid ((List.replicate d (0 : Int)).length = d) := hrl
  clear hn hk hd hE ho hrl
  go_enter Tryd.func3, Tryd.ntmps3
  go_wp2
  go_region
  all_goals first
    | (obtain ⟨W, D, C, M, hW, h2, h1, h0, L⟩ := lim_dcm w n d k; rw [← hW, ← h2, ← h1, ← h0]; clear hW h0 h1 h2)
    | (obtain ⟨W, D, M, C, hW, h2, h1, h0, L⟩ := lim_dmc w n d k; rw [← hW, ← h2, ← h1, ← h0]; clear hW h0 h1 h2)
    | (obtain ⟨W, C, D, M, hW, h2, h1, h0, L⟩ := lim_cdm w n d k; rw [← hW, ← h2, ← h1, ← h0]; clear hW h0 h1 h2)
    | (obtain ⟨W, C, M, D, hW, h2, h1, h0, L⟩ := lim_cmd w n d k; rw [← hW, ← h2, ← h1, ← h0]; clear hW h0 h1 h2)
    | (obtain ⟨W, M, D, C, hW, h2, h1, h0, L⟩ := lim_mdc w n d k; rw [← hW, ← h2, ← h1, ← h0]; clear hW h0 h1 h2)
    | (obtain ⟨W, M, C, D, hW, h2, h1, h0, L⟩ := lim_mcd w n d k; rw [← hW, ← h2, ← h1, ← h0]; clear hW h0 h1 h2)
  all_goals clear m1 m2 ha hb hc e1 e2 e3
  all_goals have hb0 : Below W.heap.size W W := Below.refl _ _
  all_goals have X := L.x
  all_goals have Xa := X.c0
  all_goals have Xb := X.c1
  all_goals have Xc := X.c2
  all_goals have Xl := cell_lt X.c0
  all_goals have HI : Hid (Img W (some ⟨D, 0, none⟩) (List.replicate d 0) (some ⟨C, 0, none⟩) (List.replicate (4 * k) 0) k) := L.i
  all_goals have cA : ∀ W', Below W.heap.size W W' → _ := fun W' hW => alive_any W' ((HE.out.on L.b).on hW)
  all_goals have cK : ∀ W', Below W.heap.size W W' → _ := fun W' hW => Check_img (size := n) ((HE.out.on L.b).on hW).two.env (HI.out.on hW) d k
  all_goals rw [HO.out, HR.out] at cK
  all_goals have cP : ∀ W', Below W.heap.size W W' → _ := fun W' hW => put_src (size := n) ((HE.out.on L.b).on hW).two.env (HI.out.on hW) d k (fun h => by cases h) HO.out
  all_goals rw [HR.out] at cP
  all_goals have cH : ∀ W' q e, Below W.heap.size W W' → Src W' q (putB n (List.replicate d 0) (List.replicate (4 * k) 0) k) → (putB n (List.replicate d 0) (List.replicate (4 * k) 0) k).length ≤ e → _ := fun W' q e hW hs he => get_img ((HE.out.on L.b).on hW).two.env hs (putB_bs HI.out.db HI.out.cb HO.out) e he (get_put HI.out.len HO.out)
  all_goals rw [HR.out] at cH
  all_goals have cM : ∀ W' p pc r rc, Below W.heap.size W W' → Img W' p (List.replicate d 0) r (List.replicate (4 * k) 0) k → _ := fun W' p pc r rc hW hI => sameM_any (n := n) (n' := n) hI (HI.out.on hW) (by rw [HR.out]; exact hdl) (by rw [HR.out]; exact hdl) hkl hkl pc d rc k
  all_goals rw [show sameB n n (List.replicate d 0) (List.replicate d 0) (List.replicate (4 * k) 0) (List.replicate (4 * k) 0) = true from (sameB_iff ..).2 ⟨rfl, rfl, rfl⟩, HR.out] at cM
  all_goals generalize putB n (List.replicate d 0) (List.replicate (4 * k) 0) k = ps at *
  all_goals generalize List.replicate d (0 : Int) = ds at *
  all_goals generalize List.replicate (4 * k) (0 : Int) = cs at *
  all_goals have LB : Hid (Below w.heap.size w W) := L.b
  all_goals clear L HO HR HE HI
  all_goals
    go_wp2_with (first
      | (go_at_call 7; refine (cP _ (by first | exact hb0 | exact on1 hb0 (alloc_below _ _) | exact on1 (on1 hb0 (alloc_below _ _)) (alloc_below _ _))).mono ?_; rintro e w1 ⟨q, e0, rfl, hS, hb1⟩; have L1 := (show Below _ _ w1 from hb1); have B1 : Hid (Below W.heap.size W w1) := (by first | exact on1 hb0 hb1 | exact on1 hb0 (two_allocs hb1) | exact on1 (on1 hb0 (alloc_below _ _)) (two_allocs hb1)); have X1 : Box w1 (M) (.int .i64 n) (.slice (some ⟨D, 0, none⟩) d d) (.slice (some ⟨C, 0, none⟩) k k) := (by first | exact X.on hb1 | exact X.on (two_allocs hb1) | exact (X.on (alloc_below _ _)).on (two_allocs hb1)); have X1a := X1.c0; have X1b := X1.c1; have X1c := X1.c2; have X1l := cell_lt X1.c0; have S1 : Hid (Src w1 q ps ∧ ps.length ≤ e0) := ⟨hS.1, hS.2.1⟩; clear hS)
      | (go_at_call 8; refine (cK _ (by first | exact B1.out | exact on1 B1.out (alloc_below _ _) | exact on1 (on1 B1.out (alloc_below _ _)) (alloc_below _ _))).mono ?_; rintro e w2 ⟨rfl, hb2⟩; have L2 := (show Below _ _ w2 from hb2); have B2 : Hid (Below W.heap.size W w2) := (by first | exact on1 B1.out hb2 | exact on1 B1.out (two_allocs hb2) | exact on1 (on1 B1.out (alloc_below _ _)) (two_allocs hb2)); have X2 : Box w2 (M) (.int .i64 n) (.slice (some ⟨D, 0, none⟩) d d) (.slice (some ⟨C, 0, none⟩) k k) := (by first | exact X1.on hb2 | exact X1.on (two_allocs hb2) | exact (X1.on (alloc_below _ _)).on (two_allocs hb2)); have X2a := X2.c0; have X2b := X2.c1; have X2c := X2.c2; have X2l := cell_lt X2.c0; have S2 : Hid (Src w2 q ps ∧ ps.length ≤ e0) := ⟨S1.out.1.below hb2, S1.out.2⟩)
      | (go_at_call 10; refine (cH _ q e0 (by first | exact B2.out | exact on1 B2.out (alloc_below _ _) | exact on1 (on1 B2.out (alloc_below _ _)) (alloc_below _ _)) S2.out.1 S2.out.2).mono ?_; rintro e w3 ⟨p, pc, r, rc, rfl, hI, hb3⟩; have L3 := (show Below _ _ w3 from hb3); have B3 : Hid (Below W.heap.size W w3) := (by first | exact on1 B2.out hb3 | exact on1 B2.out (two_allocs hb3) | exact on1 (on1 B2.out (alloc_below _ _)) (two_allocs hb3)); have X3 : Box w3 (M) (.int .i64 n) (.slice (some ⟨D, 0, none⟩) d d) (.slice (some ⟨C, 0, none⟩) k k) := (by first | exact X2.on hb3 | exact X2.on (two_allocs hb3) | exact (X2.on (alloc_below _ _)).on (two_allocs hb3)); have X3a := X3.c0; have X3b := X3.c1; have X3c := X3.c2; have X3l := cell_lt X3.c0; have I3 : Hid (Img w3 p ds r cs k) := hI.1; clear hI)
      | (go_at_call 9; refine (cA _ (by first | exact B3.out | exact on1 B3.out (alloc_below _ _) | exact on1 (on1 B3.out (alloc_below _ _)) (alloc_below _ _))).mono ?_; rintro e w4 ⟨rfl, hb4⟩; have L4 := (show Below _ _ w4 from hb4); have B4 : Hid (Below W.heap.size W w4) := (by first | exact on1 B3.out hb4 | exact on1 B3.out (two_allocs hb4) | exact on1 (on1 B3.out (alloc_below _ _)) (two_allocs hb4)); have X4 : Box w4 (M) (.int .i64 n) (.slice (some ⟨D, 0, none⟩) d d) (.slice (some ⟨C, 0, none⟩) k k) := (by first | exact X3.on hb4 | exact X3.on (two_allocs hb4) | exact (X3.on (alloc_below _ _)).on (two_allocs hb4)); have X4a := X4.c0; have X4b := X4.c1; have X4c := X4.c2; have X4l := cell_lt X4.c0; have I4 : Hid (Img w4 p ds r cs k) := ((I3.out.on (alloc_below _ _)).on hb4); have V : Box w4 w3.heap.size (.int .i64 n) (.slice p d pc) (.slice r k rc) := ((Box.new w3 _ _ _ 26).on hb4); have V0 := V.c0; have V1 := V.c1; have V2 := V.c2; have Vl := cell_lt V.c0)
      | (go_at_call 11; refine (cM _ p pc r rc (by first | exact B4.out | exact on1 B4.out (alloc_below _ _) | exact on1 (on1 B4.out (alloc_below _ _)) (alloc_below _ _)) I4.out).mono ?_; rintro e w5 ⟨rfl, hb5⟩; have L5 := (show Below _ _ w5 from hb5); have B5 : Hid (Below W.heap.size W w5) := (by first | exact on1 B4.out hb5 | exact on1 B4.out (two_allocs hb5) | exact on1 (on1 B4.out (alloc_below _ _)) (two_allocs hb5)); have X5 : Box w5 (M) (.int .i64 n) (.slice (some ⟨D, 0, none⟩) d d) (.slice (some ⟨C, 0, none⟩) k k) := (by first | exact X4.on hb5 | exact X4.on (two_allocs hb5) | exact (X4.on (alloc_below _ _)).on (two_allocs hb5)); have X5a := X5.c0; have X5b := X5.c1; have X5c := X5.c2; have X5l := cell_lt X5.c0))
    go_ret
    exact ⟨rfl, on1 LB.out B5.out⟩
set_option maxHeartbeats 8000000 in
theorem limits_n1 {w : World} (hE : Env3 w) {a b c : Int} {x y : Nat} {r : Int} {n k d : Nat} (ha : Int.tmod a 10 = x) (hb : Int.tmod b 10 = y) (hc : Int.tmod c 3 = r) (hab : 0 ≤ a ∧ a ≤ 255) (hbb : 0 ≤ b ∧ b ≤ 255) (hcb : -128 ≤ c ∧ c ≤ 127) (hx : x ≤ 9) (hy : y ≤ 9) (hn : (n : Int) = 4091 + x) (hk : (k : Int) = 1019 + y) (hd : (d : Int) = n + r) (hd0 : 4000 ≤ d ∧ d ≤ 5000) (q1 : ¬ (n : Int) ≤ 4096) :
    Calls Tryd.prog 3 #[.int .u8 a, .int .u8 b, .int .i8 c] w fun e w' => e = .returned (.bool true) ∧ Below w.heap.size w w' := by
  have m1 := fun W => make_zero W d d (Nat.le_refl _) (by omega)
  have m2 := fun W => make_ins W k (by omega)
  have e1 : 4091 + (x : Int) = n := hn.symm
  have e2 : 1019 + (y : Int) = k := hk.symm
  have e3 : (n : Int) + r = d := hd.symm
  have hlt : (0 : Int) < d := by omega
  have ho : okI n (List.replicate d 0) (List.replicate (4 * k) 0) k = false := by
    cases hq : okI n (List.replicate d 0) (List.replicate (4 * k) 0) k with | false => rfl | true => (have := (okI_iff _ _ _ _).1 hq; simp at this; omega)
  have hdl : d ≤ 1000000 := by omega
  have hkl : k ≤ 1000000 := by omega
  have hrl : (List.replicate d (0 : Int)).length = d := by simp
  have HE : Hid (Env3 w) := hE
  have HO : Hid (okI n (List.replicate d 0) (List.replicate (4 * k) 0) k = false) := ho
  have HR : Hid ((List.replicate d (0 : Int)).length = d) := hrl
  clear hn hk hd hE ho hrl
  go_enter Tryd.func3, Tryd.ntmps3
  go_wp2
  go_region
  all_goals first
    | (obtain ⟨W, D, C, M, hW, h2, h1, h0, L⟩ := lim_dcm w n d k; rw [← hW, ← h2, ← h1, ← h0]; clear hW h0 h1 h2)
    | (obtain ⟨W, D, M, C, hW, h2, h1, h0, L⟩ := lim_dmc w n d k; rw [← hW, ← h2, ← h1, ← h0]; clear hW h0 h1 h2)
    | (obtain ⟨W, C, D, M, hW, h2, h1, h0, L⟩ := lim_cdm w n d k; rw [← hW, ← h2, ← h1, ← h0]; clear hW h0 h1 h2)
    | (obtain ⟨W, C, M, D, hW, h2, h1, h0, L⟩ := lim_cmd w n d k; rw [← hW, ← h2, ← h1, ← h0]; clear hW h0 h1 h2)
    | (obtain ⟨W, M, D, C, hW, h2, h1, h0, L⟩ := lim_mdc w n d k; rw [← hW, ← h2, ← h1, ← h0]; clear hW h0 h1 h2)
    | (obtain ⟨W, M, C, D, hW, h2, h1, h0, L⟩ := lim_mcd w n d k; rw [← hW, ← h2, ← h1, ← h0]; clear hW h0 h1 h2)
  all_goals clear m1 m2 ha hb hc e1 e2 e3
  all_goals have hb0 : Below W.heap.size W W := Below.refl _ _
  all_goals have X := L.x
  all_goals have Xa := X.c0
  all_goals have Xb := X.c1
  all_goals have Xc := X.c2
  all_goals have Xl := cell_lt X.c0
  all_goals have HI : Hid (Img W (some ⟨D, 0, none⟩) (List.replicate d 0) (some ⟨C, 0, none⟩) (List.replicate (4 * k) 0) k) := L.i
  all_goals have cA : ∀ W', Below W.heap.size W W' → _ := fun W' hW => alive_any W' ((HE.out.on L.b).on hW)
  all_goals have cK : ∀ W', Below W.heap.size W W' → _ := fun W' hW => Check_img (size := n) ((HE.out.on L.b).on hW).two.env (HI.out.on hW) d k
  all_goals rw [HO.out, HR.out] at cK
  all_goals have cP : ∀ W', Below W.heap.size W W' → _ := fun W' hW => Put_no (size := n) ((HE.out.on L.b).on hW).two.env (HI.out.on hW) d k HO.out
  all_goals rw [HR.out] at cP
  all_goals have LB : Hid (Below w.heap.size w W) := L.b
  all_goals clear L HO HR HE HI
  all_goals
    go_wp2_with (first
      | (go_at_call 7; refine (cP _ (by first | exact hb0 | exact on1 hb0 (alloc_below _ _) | exact on1 (on1 hb0 (alloc_below _ _)) (alloc_below _ _))).mono ?_; rintro e w1 ⟨rfl, hb1⟩; have L1 := (show Below _ _ w1 from hb1); have B1 : Hid (Below W.heap.size W w1) := (by first | exact on1 hb0 hb1 | exact on1 hb0 (two_allocs hb1) | exact on1 (on1 hb0 (alloc_below _ _)) (two_allocs hb1)); have X1 : Box w1 (M) (.int .i64 n) (.slice (some ⟨D, 0, none⟩) d d) (.slice (some ⟨C, 0, none⟩) k k) := (by first | exact X.on hb1 | exact X.on (two_allocs hb1) | exact (X.on (alloc_below _ _)).on (two_allocs hb1)); have X1a := X1.c0; have X1b := X1.c1; have X1c := X1.c2; have X1l := cell_lt X1.c0)
      | (go_at_call 8; refine (cK _ (by first | exact B1.out | exact on1 B1.out (alloc_below _ _) | exact on1 (on1 B1.out (alloc_below _ _)) (alloc_below _ _))).mono ?_; rintro e w2 ⟨rfl, hb2⟩; have L2 := (show Below _ _ w2 from hb2); have B2 : Hid (Below W.heap.size W w2) := (by first | exact on1 B1.out hb2 | exact on1 B1.out (two_allocs hb2) | exact on1 (on1 B1.out (alloc_below _ _)) (two_allocs hb2)); have X2 : Box w2 (M) (.int .i64 n) (.slice (some ⟨D, 0, none⟩) d d) (.slice (some ⟨C, 0, none⟩) k k) := (by first | exact X1.on hb2 | exact X1.on (two_allocs hb2) | exact (X1.on (alloc_below _ _)).on (two_allocs hb2)); have X2a := X2.c0; have X2b := X2.c1; have X2c := X2.c2; have X2l := cell_lt X2.c0)
      | (go_at_call 9; refine (cA _ (by first | exact B2.out | exact on1 B2.out (alloc_below _ _) | exact on1 (on1 B2.out (alloc_below _ _)) (alloc_below _ _))).mono ?_; rintro e w3 ⟨rfl, hb3⟩; have L3 := (show Below _ _ w3 from hb3); have B3 : Hid (Below W.heap.size W w3) := (by first | exact on1 B2.out hb3 | exact on1 B2.out (two_allocs hb3) | exact on1 (on1 B2.out (alloc_below _ _)) (two_allocs hb3)); have X3 : Box w3 (M) (.int .i64 n) (.slice (some ⟨D, 0, none⟩) d d) (.slice (some ⟨C, 0, none⟩) k k) := (by first | exact X2.on hb3 | exact X2.on (two_allocs hb3) | exact (X2.on (alloc_below _ _)).on (two_allocs hb3)); have X3a := X3.c0; have X3b := X3.c1; have X3c := X3.c2; have X3l := cell_lt X3.c0))
    go_ret
    exact ⟨rfl, on1 LB.out B3.out⟩
set_option maxHeartbeats 8000000 in
theorem limits_n2 {w : World} (hE : Env3 w) {a b c : Int} {x y : Nat} {r : Int} {n k d : Nat} (ha : Int.tmod a 10 = x) (hb : Int.tmod b 10 = y) (hc : Int.tmod c 3 = r) (hab : 0 ≤ a ∧ a ≤ 255) (hbb : 0 ≤ b ∧ b ≤ 255) (hcb : -128 ≤ c ∧ c ≤ 127) (hx : x ≤ 9) (hy : y ≤ 9) (hn : (n : Int) = 4091 + x) (hk : (k : Int) = 1019 + y) (hd : (d : Int) = n + r) (hd0 : 4000 ≤ d ∧ d ≤ 5000) (q1 : (n : Int) ≤ 4096) (q2 : ¬ (k : Int) ≤ 1024) :
    Calls Tryd.prog 3 #[.int .u8 a, .int .u8 b, .int .i8 c] w fun e w' => e = .returned (.bool true) ∧ Below w.heap.size w w' := by
  have m1 := fun W => make_zero W d d (Nat.le_refl _) (by omega)
  have m2 := fun W => make_ins W k (by omega)
  have e1 : 4091 + (x : Int) = n := hn.symm
  have e2 : 1019 + (y : Int) = k := hk.symm
  have e3 : (n : Int) + r = d := hd.symm
  have hlt : (0 : Int) < d := by omega
  have ho : okI n (List.replicate d 0) (List.replicate (4 * k) 0) k = false := by
    cases hq : okI n (List.replicate d 0) (List.replicate (4 * k) 0) k with | false => rfl | true => (have := (okI_iff _ _ _ _).1 hq; simp at this; omega)
  have hdl : d ≤ 1000000 := by omega
  have hkl : k ≤ 1000000 := by omega
  have hrl : (List.replicate d (0 : Int)).length = d := by simp
  have HE : Hid (Env3 w) := hE
  have HO : Hid (okI n (List.replicate d 0) (List.replicate (4 * k) 0) k = false) := ho
  have HR : Hid ((List.replicate d (0 : Int)).length = d) := hrl
  clear hn hk hd hE ho hrl
  go_enter Tryd.func3, Tryd.ntmps3
  go_wp2
  go_region
  all_goals first
    | (obtain ⟨W, D, C, M, hW, h2, h1, h0, L⟩ := lim_dcm w n d k; rw [← hW, ← h2, ← h1, ← h0]; clear hW h0 h1 h2)
    | (obtain ⟨W, D, M, C, hW, h2, h1, h0, L⟩ := lim_dmc w n d k; rw [← hW, ← h2, ← h1, ← h0]; clear hW h0 h1 h2)
    | (obtain ⟨W, C, D, M, hW, h2, h1, h0, L⟩ := lim_cdm w n d k; rw [← hW, ← h2, ← h1, ← h0]; clear hW h0 h1 h2)
    | (obtain ⟨W, C, M, D, hW, h2, h1, h0, L⟩ := lim_cmd w n d k; rw [← hW, ← h2, ← h1, ← h0]; clear hW h0 h1 h2)
    | (obtain ⟨W, M, D, C, hW, h2, h1, h0, L⟩ := lim_mdc w n d k; rw [← hW, ← h2, ← h1, ← h0]; clear hW h0 h1 h2)
    | (obtain ⟨W, M, C, D, hW, h2, h1, h0, L⟩ := lim_mcd w n d k; rw [← hW, ← h2, ← h1, ← h0]; clear hW h0 h1 h2)
  all_goals clear m1 m2 ha hb hc e1 e2 e3
  all_goals have hb0 : Below W.heap.size W W := Below.refl _ _
  all_goals have X := L.x
  all_goals have Xa := X.c0
  all_goals have Xb := X.c1
  all_goals have Xc := X.c2
  all_goals have Xl := cell_lt X.c0
  all_goals have HI : Hid (Img W (some ⟨D, 0, none⟩) (List.replicate d 0) (some ⟨C, 0, none⟩) (List.replicate (4 * k) 0) k) := L.i
  all_goals have cA : ∀ W', Below W.heap.size W W' → _ := fun W' hW => alive_any W' ((HE.out.on L.b).on hW)
  all_goals have cK : ∀ W', Below W.heap.size W W' → _ := fun W' hW => Check_img (size := n) ((HE.out.on L.b).on hW).two.env (HI.out.on hW) d k
  all_goals rw [HO.out, HR.out] at cK
  all_goals have cP : ∀ W', Below W.heap.size W W' → _ := fun W' hW => Put_no (size := n) ((HE.out.on L.b).on hW).two.env (HI.out.on hW) d k HO.out
  all_goals rw [HR.out] at cP
  all_goals have LB : Hid (Below w.heap.size w W) := L.b
  all_goals clear L HO HR HE HI
  all_goals
    go_wp2_with (first
      | (go_at_call 7; refine (cP _ (by first | exact hb0 | exact on1 hb0 (alloc_below _ _) | exact on1 (on1 hb0 (alloc_below _ _)) (alloc_below _ _))).mono ?_; rintro e w1 ⟨rfl, hb1⟩; have L1 := (show Below _ _ w1 from hb1); have B1 : Hid (Below W.heap.size W w1) := (by first | exact on1 hb0 hb1 | exact on1 hb0 (two_allocs hb1) | exact on1 (on1 hb0 (alloc_below _ _)) (two_allocs hb1)); have X1 : Box w1 (M) (.int .i64 n) (.slice (some ⟨D, 0, none⟩) d d) (.slice (some ⟨C, 0, none⟩) k k) := (by first | exact X.on hb1 | exact X.on (two_allocs hb1) | exact (X.on (alloc_below _ _)).on (two_allocs hb1)); have X1a := X1.c0; have X1b := X1.c1; have X1c := X1.c2; have X1l := cell_lt X1.c0)
      | (go_at_call 8; refine (cK _ (by first | exact B1.out | exact on1 B1.out (alloc_below _ _) | exact on1 (on1 B1.out (alloc_below _ _)) (alloc_below _ _))).mono ?_; rintro e w2 ⟨rfl, hb2⟩; have L2 := (show Below _ _ w2 from hb2); have B2 : Hid (Below W.heap.size W w2) := (by first | exact on1 B1.out hb2 | exact on1 B1.out (two_allocs hb2) | exact on1 (on1 B1.out (alloc_below _ _)) (two_allocs hb2)); have X2 : Box w2 (M) (.int .i64 n) (.slice (some ⟨D, 0, none⟩) d d) (.slice (some ⟨C, 0, none⟩) k k) := (by first | exact X1.on hb2 | exact X1.on (two_allocs hb2) | exact (X1.on (alloc_below _ _)).on (two_allocs hb2)); have X2a := X2.c0; have X2b := X2.c1; have X2c := X2.c2; have X2l := cell_lt X2.c0)
      | (go_at_call 9; refine (cA _ (by first | exact B2.out | exact on1 B2.out (alloc_below _ _) | exact on1 (on1 B2.out (alloc_below _ _)) (alloc_below _ _))).mono ?_; rintro e w3 ⟨rfl, hb3⟩; have L3 := (show Below _ _ w3 from hb3); have B3 : Hid (Below W.heap.size W w3) := (by first | exact on1 B2.out hb3 | exact on1 B2.out (two_allocs hb3) | exact on1 (on1 B2.out (alloc_below _ _)) (two_allocs hb3)); have X3 : Box w3 (M) (.int .i64 n) (.slice (some ⟨D, 0, none⟩) d d) (.slice (some ⟨C, 0, none⟩) k k) := (by first | exact X2.on hb3 | exact X2.on (two_allocs hb3) | exact (X2.on (alloc_below _ _)).on (two_allocs hb3)); have X3a := X3.c0; have X3b := X3.c1; have X3c := X3.c2; have X3l := cell_lt X3.c0))
    go_ret
    exact ⟨rfl, on1 LB.out B3.out⟩
set_option maxHeartbeats 8000000 in
theorem limits_n3 {w : World} (hE : Env3 w) {a b c : Int} {x y : Nat} {r : Int} {n k d : Nat} (ha : Int.tmod a 10 = x) (hb : Int.tmod b 10 = y) (hc : Int.tmod c 3 = r) (hab : 0 ≤ a ∧ a ≤ 255) (hbb : 0 ≤ b ∧ b ≤ 255) (hcb : -128 ≤ c ∧ c ≤ 127) (hx : x ≤ 9) (hy : y ≤ 9) (hn : (n : Int) = 4091 + x) (hk : (k : Int) = 1019 + y) (hd : (d : Int) = n + r) (hd0 : 4000 ≤ d ∧ d ≤ 5000) (q1 : (n : Int) ≤ 4096) (q2 : (k : Int) ≤ 1024) (q3 : ¬ (d : Int) ≤ n) :
    Calls Tryd.prog 3 #[.int .u8 a, .int .u8 b, .int .i8 c] w fun e w' => e = .returned (.bool true) ∧ Below w.heap.size w w' := by
  have m1 := fun W => make_zero W d d (Nat.le_refl _) (by omega)
  have m2 := fun W => make_ins W k (by omega)
  have e1 : 4091 + (x : Int) = n := hn.symm
  have e2 : 1019 + (y : Int) = k := hk.symm
  have e3 : (n : Int) + r = d := hd.symm
  have hlt : (0 : Int) < d := by omega
  have ho : okI n (List.replicate d 0) (List.replicate (4 * k) 0) k = false := by
    cases hq : okI n (List.replicate d 0) (List.replicate (4 * k) 0) k with | false => rfl | true => (have := (okI_iff _ _ _ _).1 hq; simp at this; omega)
  have hdl : d ≤ 1000000 := by omega
  have hkl : k ≤ 1000000 := by omega
  have hrl : (List.replicate d (0 : Int)).length = d := by simp
  have HE : Hid (Env3 w) := hE
  have HO : Hid (okI n (List.replicate d 0) (List.replicate (4 * k) 0) k = false) := ho
  have HR : Hid ((List.replicate d (0 : Int)).length = d) := hrl
  clear hn hk hd hE ho hrl
  go_enter Tryd.func3, Tryd.ntmps3
  go_wp2
  go_region
  all_goals first
    | (obtain ⟨W, D, C, M, hW, h2, h1, h0, L⟩ := lim_dcm w n d k; rw [← hW, ← h2, ← h1, ← h0]; clear hW h0 h1 h2)
    | (obtain ⟨W, D, M, C, hW, h2, h1, h0, L⟩ := lim_dmc w n d k; rw [← hW, ← h2, ← h1, ← h0]; clear hW h0 h1 h2)
    | (obtain ⟨W, C, D, M, hW, h2, h1, h0, L⟩ := lim_cdm w n d k; rw [← hW, ← h2, ← h1, ← h0]; clear hW h0 h1 h2)
    | (obtain ⟨W, C, M, D, hW, h2, h1, h0, L⟩ := lim_cmd w n d k; rw [← hW, ← h2, ← h1, ← h0]; clear hW h0 h1 h2)
    | (obtain ⟨W, M, D, C, hW, h2, h1, h0, L⟩ := lim_mdc w n d k; rw [← hW, ← h2, ← h1, ← h0]; clear hW h0 h1 h2)
    | (obtain ⟨W, M, C, D, hW, h2, h1, h0, L⟩ := lim_mcd w n d k; rw [← hW, ← h2, ← h1, ← h0]; clear hW h0 h1 h2)
  all_goals clear m1 m2 ha hb hc e1 e2 e3
  all_goals have hb0 : Below W.heap.size W W := Below.refl _ _
  all_goals have X := L.x
  all_goals have Xa := X.c0
  all_goals have Xb := X.c1
  all_goals have Xc := X.c2
  all_goals have Xl := cell_lt X.c0
  all_goals have HI : Hid (Img W (some ⟨D, 0, none⟩) (List.replicate d 0) (some ⟨C, 0, none⟩) (List.replicate (4 * k) 0) k) := L.i
  all_goals have cA : ∀ W', Below W.heap.size W W' → _ := fun W' hW => alive_any W' ((HE.out.on L.b).on hW)
  all_goals have cK : ∀ W', Below W.heap.size W W' → _ := fun W' hW => Check_img (size := n) ((HE.out.on L.b).on hW).two.env (HI.out.on hW) d k
  all_goals rw [HO.out, HR.out] at cK
  all_goals have cP : ∀ W', Below W.heap.size W W' → _ := fun W' hW => Put_no (size := n) ((HE.out.on L.b).on hW).two.env (HI.out.on hW) d k HO.out
  all_goals rw [HR.out] at cP
  all_goals have LB : Hid (Below w.heap.size w W) := L.b
  all_goals clear L HO HR HE HI
  all_goals
    go_wp2_with (first
      | (go_at_call 7; refine (cP _ (by first | exact hb0 | exact on1 hb0 (alloc_below _ _) | exact on1 (on1 hb0 (alloc_below _ _)) (alloc_below _ _))).mono ?_; rintro e w1 ⟨rfl, hb1⟩; have L1 := (show Below _ _ w1 from hb1); have B1 : Hid (Below W.heap.size W w1) := (by first | exact on1 hb0 hb1 | exact on1 hb0 (two_allocs hb1) | exact on1 (on1 hb0 (alloc_below _ _)) (two_allocs hb1)); have X1 : Box w1 (M) (.int .i64 n) (.slice (some ⟨D, 0, none⟩) d d) (.slice (some ⟨C, 0, none⟩) k k) := (by first | exact X.on hb1 | exact X.on (two_allocs hb1) | exact (X.on (alloc_below _ _)).on (two_allocs hb1)); have X1a := X1.c0; have X1b := X1.c1; have X1c := X1.c2; have X1l := cell_lt X1.c0)
      | (go_at_call 8; refine (cK _ (by first | exact B1.out | exact on1 B1.out (alloc_below _ _) | exact on1 (on1 B1.out (alloc_below _ _)) (alloc_below _ _))).mono ?_; rintro e w2 ⟨rfl, hb2⟩; have L2 := (show Below _ _ w2 from hb2); have B2 : Hid (Below W.heap.size W w2) := (by first | exact on1 B1.out hb2 | exact on1 B1.out (two_allocs hb2) | exact on1 (on1 B1.out (alloc_below _ _)) (two_allocs hb2)); have X2 : Box w2 (M) (.int .i64 n) (.slice (some ⟨D, 0, none⟩) d d) (.slice (some ⟨C, 0, none⟩) k k) := (by first | exact X1.on hb2 | exact X1.on (two_allocs hb2) | exact (X1.on (alloc_below _ _)).on (two_allocs hb2)); have X2a := X2.c0; have X2b := X2.c1; have X2c := X2.c2; have X2l := cell_lt X2.c0)
      | (go_at_call 9; refine (cA _ (by first | exact B2.out | exact on1 B2.out (alloc_below _ _) | exact on1 (on1 B2.out (alloc_below _ _)) (alloc_below _ _))).mono ?_; rintro e w3 ⟨rfl, hb3⟩; have L3 := (show Below _ _ w3 from hb3); have B3 : Hid (Below W.heap.size W w3) := (by first | exact on1 B2.out hb3 | exact on1 B2.out (two_allocs hb3) | exact on1 (on1 B2.out (alloc_below _ _)) (two_allocs hb3)); have X3 : Box w3 (M) (.int .i64 n) (.slice (some ⟨D, 0, none⟩) d d) (.slice (some ⟨C, 0, none⟩) k k) := (by first | exact X2.on hb3 | exact X2.on (two_allocs hb3) | exact (X2.on (alloc_below _ _)).on (two_allocs hb3)); have X3a := X3.c0; have X3b := X3.c1; have X3c := X3.c2; have X3l := cell_lt X3.c0))
    go_ret
    exact ⟨rfl, on1 LB.out B3.out⟩
theorem limits_any {w : World} (hE : Env3 w) {a b c : Int} (hab : 0 ≤ a ∧ a ≤ 255) (hbb : 0 ≤ b ∧ b ≤ 255) (hcb : -128 ≤ c ∧ c ≤ 127) :
    Calls Tryd.prog 3 #[.int .u8 a, .int .u8 b, .int .i8 c] w fun e w' => e = .returned (.bool true) ∧ Below w.heap.size w w' := by
  obtain ⟨x, hx⟩ : ∃ x : Nat, Int.tmod a 10 = x := ⟨(Int.tmod a 10).toNat, by have := Int.tmod_nonneg 10 hab.1; omega⟩
  obtain ⟨y, hy⟩ : ∃ y : Nat, Int.tmod b 10 = y := ⟨(Int.tmod b 10).toNat, by have := Int.tmod_nonneg 10 hbb.1; omega⟩
  have x9 := Int.tmod_lt_of_pos a (show (0 : Int) < 10 by omega)
  have y9 := Int.tmod_lt_of_pos b (show (0 : Int) < 10 by omega)
  have r1 : -3 < Int.tmod c 3 ∧ Int.tmod c 3 < 3 := by
    have h1 := Int.tmod_lt_of_pos c (show (0 : Int) < 3 by omega)
    have h2 := Int.tmod_lt_of_pos (-c) (show (0 : Int) < 3 by omega)
    rw [Int.neg_tmod] at h2
    omega
  obtain ⟨n, hn⟩ : ∃ n : Nat, (n : Int) = 4091 + x := ⟨4091 + x, by omega⟩
  obtain ⟨k, hk⟩ : ∃ k : Nat, (k : Int) = 1019 + y := ⟨1019 + y, by omega⟩
  obtain ⟨d, hd⟩ : ∃ d : Nat, (d : Int) = n + Int.tmod c 3 := ⟨((n : Int) + Int.tmod c 3).toNat, by omega⟩
  by_cases q1 : (n : Int) ≤ 4096
  · by_cases q2 : (k : Int) ≤ 1024
    · by_cases q3 : (d : Int) ≤ n
      · exact limits_yes hE hx hy rfl hab hbb hcb (by omega) (by omega) hn hk hd (by omega) q1 q2 q3
      · exact limits_n3 hE hx hy rfl hab hbb hcb (by omega) (by omega) hn hk hd (by omega) q1 q2 q3
    · exact limits_n2 hE hx hy rfl hab hbb hcb (by omega) (by omega) hn hk hd (by omega) q1 q2
  · exact limits_n1 hE hx hy rfl hab hbb hcb (by omega) (by omega) hn hk hd (by omega) q1
end Go.Proofs.YtcjghnnliepjjabDoor
