/- What is written of an instruction whose Op is one: field by field. -/
import Derived.Test.YtomccgodfimaiaaGreatDoorRest
import Derived.Deep.RegionWith
import Derived.Deep.CutRange
import Derived.Deep.DeepCutAuto
import Derived.Maps.AppendAt
import Derived.OwnWalk
namespace Go.Proofs.YtomccgodfimaiaaGreatDoor
set_option linter.all false
open Go Go.RowKit
set_option maxRecDepth 100000
theorem bcell_drew {W w1 : World} (hb : Below W.drew.heap.size W.drew w1) : (∀ b o, b < W.heap.size → w1.cell? ⟨b, o, none⟩ = W.cell? ⟨b, o, none⟩) ∧ (∀ b o, b < W.heap.size → w1.frozen? ⟨b, o, none⟩ = W.frozen? ⟨b, o, none⟩) := bcell (((Below.refl W.heap.size W).drew).trans hb)
/-- a form as it lies in memory -/
structure Form (w : World) (f off : Nat) (word : ByteArray) (k1 k2 k3 : Nat) : Prop where
  c0 : w.cell? ⟨f, off, none⟩ = some (.string word)
  c1 : w.cell? ⟨f, off + 1, none⟩ = some (.int .u8 k1)
  c2 : w.cell? ⟨f, off + 2, none⟩ = some (.int .u8 k2)
  c3 : w.cell? ⟨f, off + 3, none⟩ = some (.int .u8 k3)
theorem set_self {w : World} {b i : Nat} {v : Value} (h : (w.cell? ⟨b, i, none⟩).isSome = true) : (w.setCell ⟨b, i, none⟩ v).cell? ⟨b, i, none⟩ = some v := World.cell?_setCell_same' w _ v h
theorem set_other {w : World} {b i j : Nat} {v : Value} (h : i ≠ j) : (w.setCell ⟨b, i, none⟩ v).cell? ⟨b, j, none⟩ = w.cell? ⟨b, j, none⟩ := by rw [World.cell?_setCell_other]; intro e; exact h (by injection e)
theorem form_set {w : World} {N : Nat} {word : ByteArray} {k1 k2 k3 : Nat} (h0 : (w.cell? ⟨N, 0, none⟩).isSome = true) (h1 : (w.cell? ⟨N, 1, none⟩).isSome = true) (h2 : (w.cell? ⟨N, 2, none⟩).isSome = true) (h3 : (w.cell? ⟨N, 3, none⟩).isSome = true) :
    Form ((((w.setCell ⟨N, 0, none⟩ (.string word)).setCell ⟨N, 1, none⟩ (.int .u8 k1)).setCell ⟨N, 2, none⟩ (.int .u8 k2)).setCell ⟨N, 3, none⟩ (.int .u8 k3)) N 0 word k1 k2 k3 where
  c0 := by rw [set_other (by decide), set_other (by decide), set_other (by decide), set_self h0]
  c1 := by rw [set_other (by decide), set_other (by decide), set_self (by rw [set_other (by decide)]; exact h1)]
  c2 := by rw [set_other (by decide), set_self (by rw [set_other (by decide), set_other (by decide)]; exact h2)]
  c3 := by rw [set_self (by rw [set_other (by decide), set_other (by decide), set_other (by decide)]; exact h3)]

def kSz (k : Nat) : Nat := if k = 4 then 2 else 1
/-- what is written of an instruction, field by field: may it be, and its parts -/
def wrt : List Nat → List Int → List ByteArray → Bool × List ByteArray
  | [], bs, acc => (!bs.any (fun b => decide (b ≠ 0)), acc)
  | k :: ks, bs, acc => if kOk k (bs.getD 0 0) (bs.getD 1 0) = true then wrt ks (bs.drop (kSz k)) (acc ++ [kText k (bs.getD 0 0) (bs.getD 1 0)]) else (false, acc)
/-- the kinds fit into so many bytes -/
def fit : List Nat → Nat → Prop
  | [], _ => True
  | k :: ks, n => 1 ≤ k ∧ k ≤ 5 ∧ kSz k ≤ n ∧ fit ks (n - kSz k)
def kList (k1 k2 k3 : Nat) : List Nat := if k1 = 0 then [] else if k2 = 0 then [k1] else if k3 = 0 then [k1, k2] else [k1, k2, k3]
theorem kList_length (k1 k2 k3 : Nat) : (kList k1 k2 k3).length = nKinds k1 k2 k3 := by unfold kList nKinds; split <;> (try split) <;> (try split) <;> rfl
theorem kList_at (k1 k2 k3 : Nat) (i k : Nat) (h : (kList k1 k2 k3)[i]? = some k) : (i = 0 ∧ k = k1) ∨ (i = 1 ∧ k = k2) ∨ (i = 2 ∧ k = k3) := by
  unfold kList at h
  have hi : i < 3 := by
    have := (List.getElem?_eq_some_iff.1 h).1
    split at this <;> (try split at this) <;> (try split at this) <;> simp at this <;> omega
  obtain rfl | rfl | rfl : i = 0 ∨ i = 1 ∨ i = 2 := by omega
  all_goals (split at h <;> (try split at h) <;> (try split at h) <;> simp at h <;> simp [h])
theorem kSize_nat (k : Nat) : kSize k = (kSz k : Int) := by unfold kSize kSz; split <;> rfl
theorem kSz_bd (k : Nat) : 1 ≤ kSz k ∧ kSz k ≤ 2 := by unfold kSz; split <;> omega
def strs (l : List ByteArray) : List Value := l.map .string
theorem own_kept {w w' : World} {base gp n size : Nat} {e : TypeId} {v : Value} {xs : List Value} (h : w.ownsRow base e size v n xs) (hg : v.ownBlock = some gp) (hb : w'.heap[gp]? = w.heap[gp]?) : w'.ownsRow base e size v n xs := by
  obtain ⟨h1, h2⟩ := h
  refine ⟨h1, ?_⟩
  rcases h2 with h2 | ⟨g, cap, cur, hv, a1, a2, a3⟩
  · exact Or.inl h2
  · subst hv
    simp only [Value.ownBlock, Option.some.injEq] at hg
    subst hg
    exact Or.inr ⟨g, cap, cur, rfl, a1, by rw [hb]; exact a2, a3⟩
theorem own_lt {w : World} {base gp n size : Nat} {e : TypeId} {v : Value} {xs : List Value} (h : w.ownsRow base e size v n xs) (hg : v.ownBlock = some gp) : gp < w.heap.size := by
  obtain ⟨h1, h2⟩ := h
  rcases h2 with ⟨h2, _⟩ | ⟨g, cap, cur, hv, a1, a2, a3⟩
  · subst h2; cases hg
  · subst hv
    simp only [Value.ownBlock, Option.some.injEq] at hg
    subst hg
    rcases Nat.lt_or_ge g w.heap.size with h | h
    · exact h
    · rw [Array.getElem?_eq_none h] at a2; cases a2
theorem own_base {w : World} {base base' n size : Nat} {e : TypeId} {v : Value} {xs : List Value} (h : w.ownsRow base e size v n xs) (hb : base' ≤ base) : w.ownsRow base' e size v n xs := by
  obtain ⟨h1, h2⟩ := h
  refine ⟨h1, ?_⟩
  rcases h2 with h2 | ⟨g, cap, cur, hv, a1, a2⟩
  · exact Or.inl h2
  · exact Or.inr ⟨g, cap, cur, hv, by omega, a2⟩
theorem grown_cell {w w' : World} {gp b o : Nat} (hg : w.grownBy w' (some gp)) (h1 : b < w.heap.size) (h2 : b ≠ gp) : w'.cell? ⟨b, o, none⟩ = w.cell? ⟨b, o, none⟩ :=
  World.cell?_of_block (w := w) (hg.block b h1 (fun e => h2 (by injection e)))
theorem info9 : (Tryz.prog.info? 9).map (fun i => (i.zero, i.size, i.bytes)) = some (some (.string ⟨#[]⟩), 1, 16) := by kernel_rfl
theorem write_k (k n R off cap : Nat) (k1 : 1 ≤ k) (k5 : k ≤ 5) (a b : Int) (h0 : 0 ≤ a) (h1 : a ≤ 255) (w : World) (hp : Pow w) (hh : Hcells w n (kMark k) (kSz k : Int) (kLeast k) (kMost k))
    (hc : w.cell? ⟨R, off, none⟩ = some (.int .u8 a)) (hd : k = 4 → 0 ≤ b ∧ b ≤ 255 ∧ w.cell? ⟨R, off + 1, none⟩ = some (.int .u8 b)) :
    Calls Tryz.prog 159 #[.slice (some ⟨R, off, none⟩) (kSz k) cap, .pointer (some ⟨n + 1 + 1 + 1, 0, none⟩), .pointer (some ⟨n + 1, 0, none⟩), .pointer (some ⟨n, 0, none⟩), .pointer (some ⟨n + 1 + 1 + 1 + 1 + 1, 0, none⟩)] w
      fun e w' => e = .returned (.tuple #[.string (kText k a b), .bool (kOk k a b)]) ∧ Below w.heap.size w w' := by
  have := write_any k n R off cap k1 k5 a b h0 h1 w hp (by rw [kSize_nat]; exact hh) hc hd
  rwa [kSize_nat, Int.toNat_natCast] at this

set_option maxHeartbeats 4000000 in
theorem written_some (o : Nat) (ho : o < 23) (a b c : Int) (w : World) (word : ByteArray) (k1 k2 k3 : Nat) (hf : Form w 0 (o * 4) word k1 k2 k3) (h0 : 0 < w.heap.size) (hp : Pow w) (ha : 0 ≤ a ∧ a ≤ 255) (hb : 0 ≤ b ∧ b ≤ 255) (hc : 0 ≤ c ∧ c ≤ 255) (hfit : fit (kList k1 k2 k3) 3) :
    Calls Tryz.prog 113 #[.agg #[.int .u8 o, .int .u8 a, .int .u8 b, .int .u8 c]] w fun e w' => ∃ v, e = .returned (.tuple #[v, .bool (wrt (kList k1 k2 k3) [a, b, c] [word]).1]) ∧ Below w.heap.size w w' ∧
      ((wrt (kList k1 k2 k3) [a, b, c] [word]).1 = true → w'.ownsRow w.heap.size 9 1 v (wrt (kList k1 k2 k3) [a, b, c] [word]).2.length (strs (wrt (kList k1 k2 k3) [a, b, c] [word]).2)) := by
  have ho' : (o : Int) < 23 := by omega
  obtain ⟨c0, c1, c2, c3⟩ := hf
  go_enter Tryz.func113, Tryz.ntmps113
  go_wp2
  go_cut [4, 5] (fun s4 s5 wx => ∃ f bm, s4 = .pointer (some ⟨f, 0, none⟩) ∧ s5 = .map (some bm) ∧ w.heap.size < f ∧ f < wx.heap.size ∧ Form wx f 0 word k1 k2 k3 ∧ Hmap wx bm ∧ Below (w.heap.size + 1) (w.alloc (.cells #[.int .u8 o, .int .u8 a, .int .u8 b, .int .u8 c] 70)) wx)
  case first =>
    go_region_with (go_at_call 130; refine (all_any _).mono ?_; rintro e w1 ⟨bm, rfl, hb1, hB1, hM1⟩; have z0 : 0 < w1.heap.size := (by have := hM1.lt; omega); have z1 : w.heap.size < w1.heap.size := (by have := hB1.size; simp at this; omega); have q := (bcell_drew hB1).1; have p2 := (bcell_drew hB1).2; have r0 : w1.cell? ⟨0, o * 4, none⟩ = some (.string word) := (by rw [q _ _ (by simp)]; simpa [go_sem, h0] using c0); have r1 : w1.cell? ⟨0, o * 4 + 1, none⟩ = some (.int .u8 k1) := (by rw [q _ _ (by simp)]; simpa [go_sem, h0] using c1); have r2 : w1.cell? ⟨0, o * 4 + 2, none⟩ = some (.int .u8 k2) := (by rw [q _ _ (by simp)]; simpa [go_sem, h0] using c2); have r3 : w1.cell? ⟨0, o * 4 + 3, none⟩ = some (.int .u8 k3) := (by rw [q _ _ (by simp)]; simpa [go_sem, h0] using c3))
    all_goals (go_wp2_with fail; go_meet)
    all_goals (first
      | (have hb' := ((Below.refl _ _).drew.trans hB1); refine ⟨w1.heap.size, bm, rfl, rfl, z1, by simp, ⟨by simp [go_sem], by simp [go_sem], by simp [go_sem], by simp [go_sem]⟩, hM1.below ((Below.refl _ _).alloc (Nat.le_refl _) _), (hb'.mono (by simp)).alloc (by omega) _⟩)
      | (have q1 := (bcell_drew hB1).1
         have hbm : w.heap.size + 1 < bm := by have h := hb1; simp at h; omega
         have hs1 : w.heap.size + 1 < w1.heap.size := by have h := hB1.size; simp at h; omega
         refine ⟨w.heap.size + 1, bm, rfl, rfl, by omega, by simp only [setCell_size]; exact hs1, form_set (by rw [q1 _ _ (by simp)]; simp [go_sem]) (by rw [q1 _ _ (by simp)]; simp [go_sem]) (by rw [q1 _ _ (by simp)]; simp [go_sem]) (by rw [q1 _ _ (by simp)]; simp [go_sem]), (((hM1.set hbm).set hbm).set hbm).set hbm, ?_⟩
         exact ((((((Below.refl (w.heap.size + 1) _).alloc (by simp) _).drew.trans (hB1.mono (by simp))).setCell (Nat.le_refl _) _).setCell (Nat.le_refl _) _).setCell (Nat.le_refl _) _).setCell (Nat.le_refl _) _))
  case rest =>
    obtain ⟨f, bm, rfl, rfl, hwf, hfl, ⟨d0, d1, d2, d3⟩, hM, hB⟩ := hcut
    have x1 : wc.cell? ⟨w.heap.size, 1, none⟩ = some (.int .u8 a) := by rw [(bcell hB).1 _ _ (by omega)]; simp [go_sem]
    have x2 : wc.cell? ⟨w.heap.size, 2, none⟩ = some (.int .u8 b) := by rw [(bcell hB).1 _ _ (by omega)]; simp [go_sem]
    have x3 : wc.cell? ⟨w.heap.size, 3, none⟩ = some (.int .u8 c) := by rw [(bcell hB).1 _ _ (by omega)]; simp [go_sem]
    simp only [Nat.zero_add] at d1 d2 d3
    have zb : w.heap.size < wc.heap.size := by omega
    go_wp2_with (go_at_call 131; refine (kinds_any _ _ _ _ _).mono ?_; rintro e w1 ⟨rfl, rfl⟩)
    have hnk := kList_length k1 k2 k3
    obtain ⟨n, hn⟩ : ∃ n, nKinds k1 k2 k3 = n := ⟨_, rfl⟩
    rw [hn] at hnk ⊢
    have hn3 : n ≤ 3 := by rw [← hn]; unfold nKinds; split <;> (try split) <;> (try split) <;> omega
    have HB : Hid (Below (w.heap.size + 1) (w.alloc (.cells #[.int .u8 o, .int .u8 a, .int .u8 b, .int .u8 c] 70)) wc) := hB
    have HX : Hid (∀ (i : Nat) (x : Int), ([a, b, c] : List Int)[i]? = some x → 0 ≤ x ∧ x ≤ 255) := by
      intro i x hx
      match i with
      | 0 => simp at hx; omega
      | 1 => simp at hx; omega
      | 2 => simp at hx; omega
      | i + 3 => simp at hx
    have HW : Hid (∃ r, r = wrt (kList k1 k2 k3) [a, b, c] [word]) := ⟨_, rfl⟩
    clear d0 d1 d2 d3 x1 x2 x3 c0 c1 c2 c3 hB
    have HBw : Hid (Below w.heap.size w wc) := ((Below.refl _ _).alloc (Nat.le_refl _) _).trans (HB.out.mono (by omega))
    have hpc : Pow wc := hp.on HBw.out
    obtain ⟨i0, hi, hz0, hz1, hz2⟩ := info_parts info9
    have hca := @above_cell
    go_loopg [35, 6, 7] n (fun g s35 s6 s7 wx => ∃ (j off gp : Nat) (ks : List Nat) (bs : List Int) (acc : List ByteArray), ks.length = g ∧ j + g = n ∧ s35 = .int .i64 j ∧ bs.length ≤ 3 ∧
      s7 = .slice (some ⟨wc.heap.size + 1, off, none⟩) bs.length bs.length ∧ acc.length = j + 1 ∧ wx.ownsRow wc.heap.size 9 1 s6 acc.length (strs acc) ∧ s6.ownBlock = some gp ∧ (gp = wc.heap.size ∨ wc.heap.size + 3 ≤ gp) ∧
      Below wc.heap.size wc wx ∧ wc.heap.size + 3 ≤ wx.heap.size ∧ Hid (wrt ks bs acc = wrt (kList k1 k2 k3) [a, b, c] [word]) ∧ fit ks bs.length ∧ Hid (∀ (i : Nat) (x : Int), bs[i]? = some x → 0 ≤ x ∧ x ≤ 255) ∧
      Hid (∀ (i : Nat) (x : Int), bs[i]? = some x → wx.cell? ⟨wc.heap.size + 1, off + i, none⟩ = some (.int .u8 x)) ∧ Hid (∀ (i k : Nat), ks[i]? = some k → wx.cell? ⟨wc.heap.size + 1 + 1, 1 + (j + i), none⟩ = some (.int .u8 (k : Nat))))
    case atStart =>
      refine ⟨0, 0, wc.heap.size, kList k1 k2 k3, [a, b, c], [word], hnk, by omega, rfl, Nat.le_refl _, rfl, rfl, ?_, rfl, Or.inl rfl, ?_, by simp, rfl, hfit, HX, ?_, ?_⟩
      · exact ((World.ownsRow_lit (base := wc.heap.size) (size := 1) (e := 9) wc #[.string word] 1 (Nat.le_refl _) (by decide) rfl).alloc _).alloc _
      · exact (((Below.refl _ _).alloc (Nat.le_refl _) _).alloc (by simp) _).alloc (by simp; omega) _
      · intro i x hx
        match i with
        | 0 => simp at hx; subst hx; simp [go_sem]
        | 1 => simp at hx; subst hx; simp [go_sem]
        | 2 => simp at hx; subst hx; simp [go_sem]
        | i + 3 => simp at hx
      · intro i k hk
        rcases kList_at _ _ _ _ _ hk with ⟨rfl, rfl⟩ | ⟨rfl, rfl⟩ | ⟨rfl, rfl⟩ <;> simp [go_sem]
    case round =>
      obtain ⟨j, off, gp, ks, bs, acc, hkl, hjg, rfl, hoff, rfl, hal, hown, hgp, hgl, hBw, hsz, HR, hft, HY, HC, HK⟩ := hrel
      cases gk with
      | zero =>
        have hks : ks = [] := List.eq_nil_of_length_eq_zero hkl
        subst hks
        have hlt : ¬ ((j : Int) < (n : Int)) := by omega
        have hcn := contains_any (wc.heap.size + 1) off bs.length bs (by omega) wr HC.out
        have X : Hid (wr.ownsRow w.heap.size 9 1 u6 acc.length (strs acc)) := own_base hown (by omega)
        clear hown hM
        go_wp2_with (go_at_call 132; refine hcn.mono ?_; rintro e w' ⟨rfl, rfl⟩)
        go_ret2
        rw [← HR.out]
        refine ⟨u6, ?_, HBw.out.trans (hBw.mono (by omega)), fun _ => X.out⟩
        simp [wrt]
      | succ g =>
        obtain ⟨k, ks', rfl⟩ : ∃ k ks', ks = k :: ks' := by
          cases ks with
          | nil => simp at hkl
          | cons k ks' => exact ⟨k, ks', rfl⟩
        obtain ⟨hk1, hk5, hkn, hft'⟩ := hft
        have hkb := kSz_bd k
        obtain ⟨x, hx⟩ : ∃ x, bs[0]? = some x := ⟨_, List.getElem?_eq_getElem (by omega)⟩
        have hx0 : bs.getD 0 0 = x := by rw [List.getD_eq_getElem?_getD, hx]; rfl
        obtain ⟨y, hy⟩ : ∃ y, bs.getD 1 0 = y := ⟨_, rfl⟩
        have hbx := HY.out 0 x hx
        have hcx := HC.out 0 x hx
        have hkc := HK.out 0 k rfl
        simp only [Nat.add_zero] at hcx hkc
        have hdy : k = 4 → 0 ≤ y ∧ y ≤ 255 ∧ wr.cell? ⟨wc.heap.size + 1, off + 1, none⟩ = some (.int .u8 y) := by
          intro h4
          have h2 : kSz k = 2 := by unfold kSz; rw [if_pos h4]
          have hy1 : bs[1]? = some y := by
            rw [← hy, List.getD_eq_getElem?_getD, List.getElem?_eq_getElem (show 1 < bs.length by omega)]; rfl
          exact ⟨(HY.out 1 y hy1).1, (HY.out 1 y hy1).2, HC.out 1 y hy1⟩
        have HDY : Hid (k = 4 → 0 ≤ y ∧ y ≤ 255 ∧ wr.cell? ⟨wc.heap.size + 1, off + 1, none⟩ = some (.int .u8 y)) := hdy
        have hRR := HR.out
        simp only [wrt, hx0, hy] at hRR
        have HRR : Hid ((if kOk k x y = true then wrt ks' (bs.drop (kSz k)) (acc ++ [kText k x y]) else (false, acc)) = wrt (kList k1 k2 k3) [a, b, c] [word]) := hRR
        clear hRR HR hx0 hy hdy
        have hlt : (j : Int) < (n : Int) := by omega
        obtain ⟨m, hl, hcells⟩ := (hM.below hBw).look k hk1 hk5
        rw [kSize_nat] at hl hcells
        unfold hv at hl
        have hpr : Pow wr := hpc.on hBw
        have hml := hcells.lt
        have hkle : ((kSz k : Nat) : Int) ≤ ((bs.length : Nat) : Int) := by omega
        have hgl' := own_lt hown hgp
        have hcall : ∀ V, Below wr.heap.size wr V → Calls Tryz.prog 159 #[.slice (some ⟨wc.heap.size + 1, off, none⟩) (kSz k) bs.length, .pointer (some ⟨m + 1 + 1 + 1, 0, none⟩), .pointer (some ⟨m + 1, 0, none⟩), .pointer (some ⟨m, 0, none⟩), .pointer (some ⟨m + 1 + 1 + 1 + 1 + 1, 0, none⟩)] V
            fun e w' => e = .returned (.tuple #[.string (kText k x y), .bool (kOk k x y)]) ∧ Below V.heap.size V w' := fun V hV =>
          write_k k m (wc.heap.size + 1) off bs.length hk1 hk5 x y hbx.1 hbx.2 V (hpr.on hV) (hcells.on hV) (by rw [(bcell hV).1 _ _ (by omega)]; exact hcx)
            (fun h4 => ⟨(HDY.out h4).1, (HDY.out h4).2.1, by rw [(bcell hV).1 _ _ (by omega)]; exact (HDY.out h4).2.2⟩)
        have HX2 : Hid (Hmap wc bm ∧ Hcells wr m (kMark k) (↑(kSz k)) (kLeast k) (kMost k)) := ⟨hM, hcells⟩
        clear hM hcells
        by_cases hok : kOk k x y = true
        · rw [hok] at hcall
          go_wp2
          refine wp_region_calm (by kernel_rfl) (by kernel_rfl) ?_
          repeat (go_big_quiet_step ((go_at_call 159; exact calm_call (hcall _ (((Below.refl _ _).alloc (Nat.le_refl _) _).trans ((below_above _ _).mono (by simp)))))))
          refine wpQuiet_nil ?_
          intro w2 hb2
          have hb2' : Below wr.heap.size wr w2 := ((Below.refl _ _).alloc (Nat.le_refl _) _).trans (hb2.mono (by simp))
          have hs2 : wr.heap.size + 1 ≤ w2.heap.size := by have := hb2.size; simpa using this
          have hsk : w2.cell? ⟨wr.heap.size, 0, none⟩ = some (.int .i64 (kSz k)) := by rw [(bcell hb2).1 _ _ (by simp)]; simp [go_sem]
          have hown2 : w2.ownsRow wc.heap.size 9 1 u6 acc.length (strs acc) := own_kept hown hgp (hb2'.block _ hgl')
          have hcw2 : wc.heap.size < w2.heap.size := by omega
          have HO : Hid (wr.ownsRow wc.heap.size 9 1 u6 acc.length (strs acc)) := hown
          clear hown hb2 hl hcall
          go_wp2_with (at_builtin; refine wpList_append_own_at _ rfl _ _ 125 rfl wc.heap.size 9 i0 (.string ⟨#[]⟩) 1 16 Tryz.underlying125 hi hz0 hz1 hz2 rfl (by decide) u6 _ _ rfl (hown2.alloc _) ⟨w2.heap.size, 0, none⟩ 1 1 [.string (kText k x y)] rfl rfl (cell_one_new _ _ _) (fun x hx => by simp at hx; subst hx; rfl) (by unfold maxLen; omega) (by omega) (by simp; omega) ?_; intro v' w3 hown' hgrow hnil hloc; clear hnil; rw [hgp] at hgrow hloc; have hsk3 : w3.cell? ⟨wr.heap.size, 0, none⟩ = some (.int .i64 (kSz k)) := (by rw [grown_cell hgrow (by simp; omega) (by omega)]; simpa [go_sem, Nat.lt_of_succ_le hs2] using hsk))
          all_goals
            obtain ⟨gp', hgp', hgl2⟩ : ∃ gp', v'.ownBlock = some gp' ∧ (gp' = wc.heap.size ∨ wc.heap.size + 3 ≤ gp') := by
              rcases hloc with h | h
              · exact ⟨gp, h, hgl⟩
              · exact ⟨_, h, Or.inr (by rw [alloc_size]; omega)⟩
            have hB3 : Below wc.heap.size wc w3 := ((hBw.trans (hb2'.mono (by omega))).alloc (by omega) _).grown hgrow (by rw [alloc_size]; omega) (fun q e => by cases e; omega)
            have hz3 : wc.heap.size + 3 ≤ w3.heap.size := by have := hgrow.size; rw [alloc_size] at this; omega
            have hk3 : ∀ b o, (b = wc.heap.size + 1 ∨ b = wc.heap.size + 1 + 1) → w3.cell? ⟨b, o, none⟩ = wr.cell? ⟨b, o, none⟩ := fun b o hb => by
              rw [grown_cell hgrow (by rw [alloc_size]; omega) (by omega), (bcell ((Below.refl w2.heap.size w2).alloc (Nat.le_refl _) _)).1 _ _ (by omega), (bcell hb2').1 _ _ (by omega)]
            have hst : strs acc ++ [Value.string (kText k x y)] = strs (acc ++ [kText k x y]) := by simp [strs]
            rw [hst] at hown'
            have hla : (acc ++ [kText k x y]).length = acc.length + 1 := by simp
            rw [← hla] at hown'
            have hR2 := HRR.out
            rw [if_pos hok] at hR2
            go_roundg g
            case measure => omega
          case rel =>
            have hd : bs.drop (kSz k) = [] := List.drop_eq_nil_of_le (by omega)
            rw [hd] at hR2
            refine ⟨j + 1, off, gp', ks', [], acc ++ [kText k x y], by simpa using hkl, by omega, by go_num, by simp, rfl, by omega, hown', hgp', hgl2, hB3, hz3, hR2, ?_, ?_, ?_, ?_⟩
            · have := hft'; rw [show bs.length - kSz k = 0 by omega] at this; exact this
            · intro i x hx; simp at hx
            · intro i x hx; simp at hx
            · intro i q hq
              rw [hk3 _ _ (Or.inr rfl), show 1 + (j + 1 + i) = 1 + (j + (i + 1)) by omega]
              exact HK.out (i + 1) q (by simpa using hq)
          case rel =>
            refine ⟨j + 1, off + kSz k, gp', ks', bs.drop (kSz k), acc ++ [kText k x y], by simpa using hkl, by omega, by go_num, by rw [List.length_drop]; omega, by rw [List.length_drop], by omega, hown', hgp', hgl2, hB3, hz3, hR2, by rw [List.length_drop]; exact hft', ?_, ?_, ?_⟩
            · intro i x hx; rw [List.getElem?_drop] at hx; exact HY.out _ _ hx
            · intro i x hx
              rw [List.getElem?_drop] at hx
              rw [hk3 _ _ (Or.inl rfl), Nat.add_assoc]
              exact HC.out _ _ hx
            · intro i q hq
              rw [hk3 _ _ (Or.inr rfl), show 1 + (j + 1 + i) = 1 + (j + (i + 1)) by omega]
              exact HK.out (i + 1) q (by simpa using hq)
        · have hok' : kOk k x y = false := by simpa using hok
          rw [hok'] at hcall
          have hR2 := HRR.out
          rw [if_neg hok] at hR2
          have HR2 : Hid ((false, acc) = wrt (kList k1 k2 k3) [a, b, c] [word]) := hR2
          clear hR2 hok HRR
          go_wp2
          refine wp_region_calm (by kernel_rfl) (by kernel_rfl) ?_
          repeat (go_big_quiet_step ((go_at_call 159; exact calm_call (hcall _ (((Below.refl _ _).alloc (Nat.le_refl _) _).trans ((below_above _ _).mono (by simp)))))))
          refine wpQuiet_nil ?_
          intro w2 hb2
          have hb2' : Below wr.heap.size wr w2 := ((Below.refl _ _).alloc (Nat.le_refl _) _).trans (hb2.mono (by simp))
          clear hb2 hl hcall
          go_wp2
          try rw [Exit.noGoto_ret]
          go_ret2
          rw [← HR2.out]
          exact ⟨_, rfl, HBw.out.trans ((hBw.trans (hb2'.mono (by omega))).mono (by omega)), fun h => by cases h⟩
end Go.Proofs.YtomccgodfimaiaaGreatDoor
