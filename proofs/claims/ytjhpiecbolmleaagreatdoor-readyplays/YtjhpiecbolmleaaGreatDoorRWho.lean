/- What Rank answers: a range over an iterator within a loop; each round leaves a mark among the deferred calls. -/
import Derived.Test.YtjhpiecbolmleaaGreatDoorRRank
namespace Go.Proofs.YtjhpiecbolmleaaGreatDoor
open Go Go.RowKit Go.Shelf
attribute [local go_sem] Oper.semAt_some
set_option maxRecDepth 100000
set_option linter.unusedVariables false
set_option linter.unusedSimpArgs false
theorem bx {W W' : World} {n b : Nat} {t : TypeId} {v : Value} (h : Boxed W b t v) (hb : Below n W W') (hn : b < n) : Boxed W' b t v := (hb.block b hn).trans h
theorem Buts.trans' {l : List Nat} {a b c : World} (h : Buts l a b) (k : Below a.heap.size b c) : Buts l a c :=
  ⟨k.os.trans h.os, k.tape.trans h.tape, k.output.trans h.output, Nat.le_trans h.size k.size, fun i hi hg => (k.block i hi).trans (h.block i hi hg)⟩
/-- how many ranks are left -/
def left18 (m : Nat) (a : Act) : Nat := match a.tmps.getD 18 undef with | .int _ i => m - i.toNat | _ => 0
/-- a mark among the deferred calls -/
def mk1 (D : Nat) : Deferred := { target := .collected D, args := #[] }
/-- marks whose blocks have nothing -/
def Marks (t : Nat) (Ds : List Nat) (W : World) : Prop := Ds.Nodup ∧ ∀ D ∈ Ds, t ≤ D ∧ W.heap[D]? = some (.deferred (some []))
theorem leaves_marks {F : Fence} {n : Nat} {P : Program} {fn : Func} {tmps : Array Value} {R : Ending → World → Prop} {t : Nat} : ∀ (Ds : List Nat) (W : World), t ≤ W.heap.size → Marks t Ds W →
    (∀ W', (∀ (k : Nat) (cs : Array Value) (ty : TypeId) (f : Nat × Nat), W.heap[k]? = some (Obj.cells cs ty f) → W'.heap[k]? = some (Obj.cells cs ty f)) → Below t W W' → ∃ v, (results fn tmps).run P W' = .ok v W' ∧ R (.returned v) W') →
    LeavesInM F n P fn tmps R (Ds.map mk1) .returning W
  | [], W, _, _, h => h W (fun _ _ _ _ h => h) (Below.refl _ _)
  | D :: Ds, W, ht, hm, h => by
    obtain ⟨hd, hall⟩ := hm
    obtain ⟨h1, h2⟩ := hall D (by simp)
    have hdn := List.nodup_cons.1 hd
    have hb : Below t W (W.putObj D (.deferred none)) := (Below.refl t W).grown (grownBy_putObj' W D _) ht (fun k e => by cases e; exact h1)
    refine ⟨by simp, .inl ⟨D, _, rfl, run_takeDeferred h2, ?_⟩⟩
    refine leaves_marks Ds _ (Nat.le_trans ht hb.size) ⟨hdn.2, fun E hE => ⟨(hall E (by simp [hE])).1, ?_⟩⟩ fun W' hk hb' => h W' (fun k cs ty f hk0 => hk k cs ty f (put_shut h2 rfl _ k cs ty f hk0)) (hb.trans hb')
    rw [World.putObj_heap_other (fun e => hdn.1 (by rw [← e]; exact hE))]
    exact (hall E (by simp [hE])).2
theorem Marks.keep {t : Nat} {Ds : List Nat} {W W' : World} (h : Marks t Ds W) (hk : ∀ D ∈ Ds, W'.heap[D]? = W.heap[D]?) : Marks t Ds W' := ⟨h.1, fun D hD => ⟨(h.2 D hD).1, (hk D hD).trans (h.2 D hD).2⟩⟩
theorem Marks.lt {t : Nat} {Ds : List Nat} {W : World} (h : Marks t Ds W) : ∀ D ∈ Ds, D < W.heap.size := fun D hD => by
  have := (h.2 D hD).2
  exact (Array.getElem?_eq_some_iff.1 this).1
/-- who is in none of the ranks that were looked at -/
theorem rk_not {X : Nat → List Int} {l : Nat} (hl : Lad X l) {z : Int} (h : ∀ r ∈ Ld.told l, z ∉ X r.toNat) : rkv X z = 0 ∧ rkb X z = false := by
  have : rk X z = none := rk_none.2 fun r hr hz => by
    refine h (r : Int) ((hl.told (r : Int)).2 ⟨by omega, by omega, ?_⟩) hz
    intro h0
    rw [show ((r : Int)).toNat = r from rfl] at h0
    rw [h0] at hz
    simp at hz
  unfold rkv rkb
  rw [this]
  exact ⟨rfl, rfl⟩
theorem rk_yes {X : Nat → List Int} (hX : Good X) {r : Int} (h0 : 0 ≤ r) (h1 : r ≤ 31) {z : Int} (hz : z ∈ X r.toNat) : rkv X z = r ∧ rkb X z = true := by
  have := rk_some hX (r := r.toNat) (by omega) hz
  unfold rkv rkb
  rw [this]
  exact ⟨by simp; omega, rfl⟩
set_option maxHeartbeats 8000000 in
theorem qrank_any {B s : Nat} {w : World} {p : Nat} {X : Nat → List Int} (h : QS B s w p X) (z : Int) :
    Calls Tryz.prog 11 #[.pointer (some ⟨p, 0, none⟩), .int .i64 z] w fun e w' => e = .returned (.tuple #[.int .i64 (rkv X z), .bool (rkb X z)]) ∧ Below w.heap.size w w' := by
  obtain ⟨hp, hg, l, hQ, _, _, _, _⟩ := h
  have hlad := hQ.lad
  have hgood := hQ.good
  have hll := hlad.lt
  refine (callsIn_wide (n := 3)).1 ?_
  refine callsIn_of_wp_marks Tryz.func11 rfl trivial ?_ rfl
  simp only [Tryz.ntmps11, List.size_toArray, List.length_cons, List.length_nil, Nat.reduceAdd, Nat.reduceSub, Array.replicate_succ, Array.replicate_zero, List.push_toArray, List.append_toArray, List.nil_append, List.cons_append]
  obtain ⟨W0, hW0⟩ : ∃ W0, ((w.alloc (.cells #[.int .i64 z] 3)).alloc (.cells #[.int .i64 0] 3)).alloc (.cells #[.bool false] 4) = W0 := ⟨_, rfl⟩
  have bZ : Boxed W0 w.heap.size 3 (.int .i64 z) := by rw [← hW0]; exact ((Boxed.new w _ _).alloc _).alloc _
  have hR0 : R2 W0 (w.heap.size + 1) 0 false := by
    have := two_new (w.alloc (.cells #[.int .i64 z] 3))
    rwa [World.size_alloc, hW0] at this
  have hB0 : Below w.heap.size w W0 := by rw [← hW0]; exact (((Below.refl _ w).alloc (Nat.le_refl _) _).alloc (by simp) _).alloc (by simp; omega) _
  have hS0 : W0.heap.size = w.heap.size + 1 + 1 + 1 := by rw [← hW0]; simp
  have hQ0 := hQ.below hB0
  have hp0 := hQ0.row (r := 0) (by omega)
  have hld := hQ0.ld
  have hLL := Ld.list_any l hll W0
  clear hQ
  gi_wp2_with (refine ⟨trivial, ?_⟩; first
      | (gi_at_call 27; refine (callsIn_wide.2 (qthere_yes hp0)).mono ?_; rintro e w' ⟨rfl, rfl⟩; clear hW0)
      | (gi_at_call 30; refine (callsIn_wide.2 hLL).mono ?_; rintro e W1 ⟨v, rfl, hown, _, hB1⟩; obtain ⟨sp, cap, rfl, hsp, _, _⟩ := own_form hown))
  obtain ⟨tl, htl⟩ : ∃ tl, Ld.told l = tl := ⟨_, rfl⟩
  obtain ⟨m, hm⟩ : ∃ m, tl.length = m := ⟨_, rfl⟩
  rw [htl, hm] at hown hsp
  simp only [htl, hm]
  have hs1 : w.heap.size + 1 + 1 + 1 ≤ W1.heap.size := by have := hB1.size; omega
  have hcell : ∀ i, i < m → ∃ g, sp = some ⟨g, 0, none⟩ ∧ g < W1.heap.size ∧ W1.cell? ⟨g, i, none⟩ = some (.int .i64 (tl.getD i 0)) := fun i hi => by
    obtain ⟨g, hg⟩ := hsp (by omega)
    refine ⟨g, hg, (hown.lt g (by rw [hg]; rfl)).2, ?_⟩
    subst hg
    rw [hown.cellAt i (by omega)]
    simp [hm, hi]
  have hmem : ∀ i, i < m → 0 ≤ tl.getD i 0 ∧ tl.getD i 0 ≤ 31 := fun i hi => by
    have h1 : tl.getD i 0 ∈ tl := getD_mem (by omega)
    have h2 := (hlad.told (tl.getD i 0)).1 (by rw [htl]; exact h1)
    exact ⟨h2.1, h2.2.1⟩
  have HNO : Hid ((∀ j, j < m → z ∉ X (tl.getD j 0).toNat) → rkv X z = 0 ∧ rkb X z = false) := fun hno => rk_not hlad fun r hr => by
    rw [htl] at hr
    obtain ⟨j, hj, e⟩ := List.getElem_of_mem hr
    have := hno j (by omega)
    rwa [show tl.getD j 0 = r by simp [hj, e]] at this
  have bZ1 := bx bZ hB1 (by omega)
  have hR1 : R2 W1 (w.heap.size + 1) 0 false := ⟨bx hR0.1 hB1 (by omega), bx hR0.2 hB1 (by omega)⟩
  have hB01 : Below w.heap.size w W1 := hB0.trans (hB1.mono hB0.size)
  have hQ1 := hQ0.below hB1
  have hmm : m ≤ 32 := by rw [← hm, ← htl, Ld.told_len]; exact Ld.ranks_len l
  clear hown hB1 hR0 bZ hB0 hS0 hQ0 hp0 hld hsp htl hm
  refine wpIn_loop (fun a W => ∃ (i : Nat) (u7 u8 u19 u20 u21 u22 u23 u24 u25 u26 u27 u28 u29 u30 : Value) (Ds : List Nat), a = { tmps := #[.pointer (some ⟨p, 0, none⟩), .int .i64 z, undef, .pointer (some ⟨w.heap.size, 0, none⟩), .pointer (some ⟨w.heap.size + 1, 0, none⟩), .pointer (some ⟨w.heap.size + 1 + 1, 0, none⟩), undef, u7, u8, .pointer (some ⟨p, 0, none⟩), .bool true, .bool false, .pointer (some ⟨p, 0, none⟩), .pointer (some ⟨p, 0, none⟩), .pointer (some ⟨p, 32, none⟩), .int .u32 (l : Int), .slice sp m cap, .int .i64 (m : Int), .int .i64 (i : Int), u19, u20, u21, u22, u23, u24, u25, u26, u27, u28, u29, u30], defers := Ds.map mk1 } ∧ i ≤ m ∧ Below W1.heap.size W1 W ∧ Marks W1.heap.size Ds W ∧ ∀ j, j < i → z ∉ X (tl.getD j 0).toNat)
    (fun a W => left18 m a) ?start ?round
  case start => exact ⟨0, _, _, _, _, _, _, _, _, _, _, _, _, _, _, [], rfl, by omega, Below.refl _ _, ⟨List.nodup_nil, fun D hD => by simp at hD⟩, fun j hj => by omega⟩
  case round =>
    rintro a W ⟨i, u7, u8, u19, u20, u21, u22, u23, u24, u25, u26, u27, u28, u29, u30, Ds, rfl, him, hBW, hMk, hno⟩
    have hR2 : R2 W (w.heap.size + 1) 0 false := ⟨bx hR1.1 hBW (by omega), bx hR1.2 hBW (by omega)⟩
    by_cases hi : i = m
    · have hlt : ¬ ((i : Int) < m) := by omega
      have c1 := hR2.1.cell
      have c2 := hR2.2.cell
      have f1 := hR2.1.frozen
      have f2 := hR2.2.frozen
      obtain ⟨e1, e2⟩ := HNO.out (fun j hj => hno j (by omega))
      have E : Hid (rkv X z = 0 ∧ rkb X z = false) := ⟨e1, e2⟩
      clear e1 e2 hno HNO
      gi_wp2
      have hR3 := hR2.put 0 false
      have hsz := hBW.size
      have hB2 : Below w.heap.size w ((W.setCell ⟨w.heap.size + 1, 0, none⟩ (.int .i64 0)).setCell ⟨w.heap.size + 1 + 1, 0, none⟩ (.bool false)) := ((hB01.trans (hBW.mono (by omega))).setCell (p := ⟨w.heap.size + 1, 0, none⟩) (by simp) _).setCell (p := ⟨w.heap.size + 1 + 1, 0, none⟩) (by simp; omega) _
      refine leaves_marks (t := W1.heap.size) Ds _ (by simpa [World.setCell] using hsz) (hMk.keep fun D hD => ?_) fun W' hk hb => ?_
      · have := (hMk.2 D hD).1
        rw [Below.heap_setCell _ _ _ _ (by simp; omega), Below.heap_setCell _ _ _ _ (by simp; omega)]
      · exact ⟨_, rank_results (hR3.keep hk) _ rfl rfl, by rw [E.out.1, E.out.2], hB2.trans (hb.mono (by omega))⟩
    · have hil : i < m := by omega
      have hlt : (i : Int) < m := by omega
      obtain ⟨g, hsg, hgl, hc⟩ := hcell i hil
      subst hsg
      obtain ⟨hr0, hr1⟩ := hmem i hil
      have c0 := (hBW.cell (p := ⟨g, i, none⟩) hgl).trans hc
      obtain ⟨r, hr⟩ : ∃ r, tl.getD i 0 = r := ⟨_, rfl⟩
      rw [hr] at hr0 hr1 c0
      have HR : Hid (tl.getD i 0 = r) := hr
      have hQW := hQ1.below hBW
      have bZW := bx bZ1 hBW (by omega)
      clear hr hc hcell hmem
      gi_wp2_with (refine ⟨trivial, ?_⟩; gi_at_call 29; refine (callsIn_wide.2 (those_any _ _ _)).mono ?_; rintro e w' ⟨rfl, rfl⟩)
      obtain ⟨Wr, hWr⟩ : ∃ Wr, (((W.alloc (.cells #[.int .i64 r] 3)).alloc (.cells #[.pointer (some ⟨p, 0, none⟩)] 24)).alloc (.cells #[.int .i64 r] 3)) = Wr := ⟨_, rfl⟩
      have bK : Boxed Wr W.heap.size 3 (.int .i64 r) := by rw [← hWr]; exact ((Boxed.new W _ _).alloc _).alloc _
      have bQ : Boxed Wr (W.heap.size + 1) 24 (.pointer (some ⟨p, 0, none⟩)) := by
        have := (Boxed.new (W.alloc (.cells #[.int .i64 r] 3)) 24 (.pointer (some ⟨p, 0, none⟩))).alloc (.cells #[.int .i64 r] 3)
        rw [World.size_alloc, hWr] at this
        exact this
      have bR : Boxed Wr (W.heap.size + 1 + 1) 3 (.int .i64 r) := by
        have := Boxed.new ((W.alloc (.cells #[.int .i64 r] 3)).alloc (.cells #[.pointer (some ⟨p, 0, none⟩)] 24)) 3 (.int .i64 r)
        rw [World.size_alloc, World.size_alloc, hWr] at this
        exact this
      have hBr : Below W.heap.size W Wr := by rw [← hWr]; exact (((Below.refl _ W).alloc (Nat.le_refl _) _).alloc (by simp) _).alloc (by simp; omega) _
      have hSr : Wr.heap.size = W.heap.size + 1 + 1 + 1 := by rw [← hWr]; simp
      simp only [World.size_alloc, hWr]
      have hsz := hBW.size
      have hQr := hQW.below hBr
      have bZr := bx bZW hBr (by omega)
      have hRr : R2 Wr (w.heap.size + 1) 0 false := ⟨bx hR2.1 hBr (by omega), bx hR2.2 hBr (by omega)⟩
      have hMr : Marks W1.heap.size Ds Wr := hMk.keep fun D hD => hBr.block D (hMk.lt D hD)
      have hB1r : Below W1.heap.size W1 Wr := hBW.trans (hBr.mono (by omega))
      clear hWr hQW bZW hBr c0 hR2
      refine wpIn_rangeFunc_ownG rfl (by omega) (gf := 66) (lb := #[.pointer (some ⟨W.heap.size + 1, 0, none⟩), .pointer (some ⟨W.heap.size + 1 + 1, 0, none⟩)]) rfl trivial (enters_of Tryz.func66 (by kernel_rfl) rfl)
        (seq_stops _ (by omega) (W.heap.size + 1) (W.heap.size + 1 + 1) w.heap.size p r hp hg X l Wr (by omega) (by omega) bQ.cell bR.cell hQr (by omega) _ bZr.cell rfl) KL.trans (kl_b (by omega)) (Below.refl _ _) (fun _ => rfl)
        (fun pre W => (∀ x ∈ pre, x ≠ z) ∧ Below Wr.heap.size Wr W)
        (fun c pre W => c = .ret ∧ z ∈ pre ∧ R2 W (w.heap.size + 1) r true ∧ Buts [w.heap.size + 1, w.heap.size + 1 + 1] Wr W)
        (ownFrom_of fun s W W' hs hk hB => ⟨hs.1, hs.2.trans (hB _ (by omega) hs.2.size)⟩)
        (fun c => ownFrom_of fun s W W' hs hk hB => ⟨hs.1, hs.2.1, hs.2.2.1.keep hk, (hs.2.2.2).trans' (hB _ (Nat.le_refl _) hs.2.2.2.size)⟩)
        ⟨by simp, Below.refl _ _⟩
        (fun x => { tmps := #[.pointer (some ⟨p, 0, none⟩), .int .i64 z, undef, .pointer (some ⟨w.heap.size, 0, none⟩), .pointer (some ⟨w.heap.size + 1, 0, none⟩), .pointer (some ⟨w.heap.size + 1 + 1, 0, none⟩), undef, .pointer (some ⟨W.heap.size, 0, none⟩), .int .i64 x, .pointer (some ⟨p, 0, none⟩), .bool true, .bool false, .pointer (some ⟨p, 0, none⟩), .pointer (some ⟨p, 0, none⟩), .pointer (some ⟨p, 32, none⟩), .int .u32 (l : Int), .slice (some ⟨g, 0, none⟩) m cap, .int .i64 (m : Int), .int .i64 (i : Int), .bool true, .pointer (some ⟨g, i, none⟩), .int .i64 r, .pointer (some ⟨p, 0, none⟩), .int .i64 r, .func (.func 66) #[] #[.pointer (some ⟨W.heap.size + 1, 0, none⟩), .pointer (some ⟨W.heap.size + 1 + 1, 0, none⟩)], .int .i64 x, u26, u27, u28, u29, u30], defers := [] }) ?assign ?body ?done ?stop
      case assign =>
        intro l x W K hK
        gi_wp2
        exact hK
      case body =>
        rintro lo pre x V ⟨hne, hBV⟩ hlt2
        have hRV : R2 V (w.heap.size + 1) 0 false := ⟨bx hRr.1 hBV (by omega), bx hRr.2 hBV (by omega)⟩
        have bZV := bx bZr hBV (by omega)
        have bKV := bx bK hBV (by omega)
        have c0 := bZV.cell
        have c3 := bKV.cell
        have c1 := hRV.1.cell
        have c2 := hRV.2.cell
        have f1 := hRV.1.frozen
        have f2 := hRV.2.frozen
        by_cases hxz : x = z
        · have hxz' : (x == z) = true := by simpa using hxz
          gi_wp2
          refine ⟨((KeepsOthers.setCell _ _ _).trans (KeepsOthers.setCell _ _ _)).from _, rfl, by simp [hxz], hRV.put r true, ?_⟩
          exact ((Buts.of hBV).trans ((Buts.cell V (w.heap.size + 1) 0 _).mono (by simp))).trans ((Buts.cell _ (w.heap.size + 1 + 1) 0 _).mono (by simp))
        · have hxz' : (x == z) = false := by simpa using hxz
          gi_wp2
          exact ⟨KeepsFrom.refl _ _, KL.refl _ _, fun y hy => by
            rcases List.mem_append.1 hy with hy | hy
            · exact hne y hy
            · have : y = x := by simpa using hy
              rw [this]; exact hxz, hBV⟩
      case done =>
        rintro D ys V hD rfl ⟨hne, hBV⟩ hK
        have hno2 : ∀ j, j < i + 1 → z ∉ X (tl.getD j 0).toNat := fun j hj hz => by
          rcases Nat.lt_or_ge j i with h | h
          · exact hno j h hz
          · obtain rfl : j = i := by omega
            rw [HR.out] at hz
            refine hne z ?_ rfl
            unfold lsX
            rw [if_pos ⟨hr0, hr1⟩]
            exact hz
        have hM2 : Marks W1.heap.size (D :: Ds) V := by
          refine ⟨List.nodup_cons.2 ⟨fun hD2 => ?_, hMr.1⟩, fun E hE => ?_⟩
          · have := hMr.lt D hD2; omega
          · rcases List.mem_cons.1 hE with rfl | hE
            · exact ⟨by omega, hK⟩
            · exact ⟨(hMr.2 E hE).1, (hBV.block E (hMr.lt E hE)).trans (hMr.2 E hE).2⟩
        have HB2 : Hid (Below W1.heap.size W1 V) := hB1r.trans (hBV.mono hB1r.size)
        have HM2 : Hid (Marks W1.heap.size (D :: Ds) V) := hM2
        have HN2 : Hid (∀ j, j < i + 1 → z ∉ X (tl.getD j 0).toNat) := hno2
        have hwk : IntKind.i64.wrap ((i : Int) + 1) = (i : Int) + 1 := by rw [IntKind.wrap_i64]; omega
        clear hno2 hM2 hno hne hBV hK hMr hMk hB1r bZr hRr bK bQ bR hQr HNO
        gi_wp2
        refine ⟨⟨i + 1, _, _, _, _, _, _, _, _, _, _, _, _, _, _, D :: Ds, rfl, by omega, HB2.out, HM2.out, HN2.out⟩, ?_⟩
        show m - ((i : Int) + 1).toNat < m - ((i : Int)).toNat
        omega
      case stop =>
        rintro D c pre V hD hpre ⟨rfl, hz, hRV, hbV⟩ hK
        have hzr : z ∈ X r.toNat := by
          have h1 := hpre.subset hz
          unfold lsX at h1
          rw [if_pos ⟨hr0, hr1⟩] at h1
          exact h1
        have E : Hid (rkv X z = r ∧ rkb X z = true) := rk_yes hgood hr0 hr1 hzr
        have hM2 : Marks W1.heap.size (D :: Ds) V := by
          refine ⟨List.nodup_cons.2 ⟨fun hD2 => ?_, hMr.1⟩, fun E hE => ?_⟩
          · have := hMr.lt D hD2; omega
          · rcases List.mem_cons.1 hE with rfl | hE
            · exact ⟨by omega, hK⟩
            · have h1 := (hMr.2 E hE).1
              exact ⟨h1, (hbV.block E (hMr.lt E hE) (by simp; omega)).trans (hMr.2 E hE).2⟩
        have hBw : Below w.heap.size w V := (hB01.trans (hB1r.mono (by omega))).trans (hbV.below (B := w.heap.size) (by simp; omega) (by omega))
        have hVs := hbV.size
        clear hzr hno hMr hMk hB1r bZr hRr bK bQ bR hQr HNO hpre hz
        gi_wp2
        refine leaves_marks (t := W1.heap.size) (D :: Ds) _ (by omega) hM2 fun W' hk hb => ?_
        exact ⟨_, rank_results (hRV.keep hk) _ rfl rfl, by rw [E.out.1, E.out.2], hBw.trans (hb.mono (by omega))⟩
end Go.Proofs.YtjhpiecbolmleaaGreatDoor
