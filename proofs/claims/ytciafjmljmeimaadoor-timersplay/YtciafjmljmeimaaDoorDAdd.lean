/- A chain: one more. -/
import Derived.Test.YtciafjmljmeimaaDoorDShift
namespace Go.Proofs.YtciafjmljmeimaaDoor
open Go Go.RowKit Go.Shelf
attribute [local go_sem] Oper.semAt_some
set_option maxRecDepth 100000
set_option linter.unusedVariables false
set_option linter.unusedSimpArgs false
/-- the variables of the search for a place -/
structure AB (w W : World) (t b6 b7 : Nat) (ticks a b : Int) : Prop where
  x5 : Boxed W t 2 (.int .i64 ticks)
  x6 : Boxed W b6 3 (.int .i64 a)
  x7 : Boxed W b7 2 (.int .i64 b)
  n67 : b6 ≠ b7
  n56 : t ≠ b6
  n57 : t ≠ b7
  l6 : t ≤ b6
  l7 : t ≤ b7
  bel : Below t w W
theorem AB.keep {w W W' : World} {t b6 b7 : Nat} {ticks a b : Int} (h : AB w W t b6 b7 ticks a b) (hk : ∀ (k : Nat) (cs : Array Value) (t : TypeId) (f : Nat × Nat), W.heap[k]? = some (Obj.cells cs t f) → W'.heap[k]? = some (Obj.cells cs t f)) (hb : Below t W W') : AB w W' t b6 b7 ticks a b :=
  ⟨hk _ _ _ _ h.x5, hk _ _ _ _ h.x6, hk _ _ _ _ h.x7, h.n67, h.n56, h.n57, h.l6, h.l7, h.bel.trans hb⟩
theorem AB.below {w W W' : World} {t b6 b7 : Nat} {ticks a b : Int} (h : AB w W t b6 b7 ticks a b) (ht : t ≤ W.heap.size) (hb : Below W.heap.size W W') : AB w W' t b6 b7 ticks a b :=
  h.keep (fun k cs ty f hk => (hb.block k (at_lt hk)).trans hk) (hb.mono ht)
theorem AB.put {w W : World} {t b6 b7 : Nat} {ticks a b : Int} (h : AB w W t b6 b7 ticks a b) (a' b' : Int) : AB w ((W.setCell ⟨b6, 0, none⟩ (.int .i64 a')).setCell ⟨b7, 0, none⟩ (.int .i64 b')) t b6 b7 ticks a' b' :=
  ⟨Boxed.other (Boxed.other h.x5 h.n56) h.n57, Boxed.other (Boxed.set _ h.x6) h.n67, Boxed.set _ (Boxed.other h.x7 (Ne.symm h.n67)), h.n67, h.n56, h.n57, h.l6, h.l7, (h.bel.setCell (p := ⟨b6, 0, none⟩) h.l6 _).setCell (p := ⟨b7, 0, none⟩) h.l7 _⟩
theorem AB.of {w : World} {t : Nat} (ht : w.heap.size = t) (ticks : Int) : AB w ((((w.alloc (Obj.cells #[.int .i64 ticks] 2)).alloc (Obj.cells #[.int .i64 0] 3)).alloc (Obj.cells #[.int .i64 ticks] 2)).drew) t (t + 1) (t + 1 + 1) ticks 0 ticks ∧
    AB w ((((w.alloc (Obj.cells #[.int .i64 ticks] 2)).alloc (Obj.cells #[.int .i64 ticks] 2)).alloc (Obj.cells #[.int .i64 0] 3)).drew) t (t + 1 + 1) (t + 1) ticks 0 ticks := by
  subst ht
  have hb : ∀ o1 o2 o3 : Obj, Below w.heap.size w ((((w.alloc o1).alloc o2).alloc o3).drew) := fun o1 o2 o3 => ((((Below.refl _ w).alloc (Nat.le_refl _) _).alloc (by simp) _).alloc (by simp; omega) _).drew
  refine ⟨⟨?_, ?_, ?_, by omega, by omega, by omega, by omega, by omega, hb _ _ _⟩, ⟨?_, ?_, ?_, by omega, by omega, by omega, by omega, by omega, hb _ _ _⟩⟩
  · exact ((Boxed.new w _ _).alloc _).alloc _
  · have := (Boxed.new (w.alloc (Obj.cells #[.int .i64 ticks] 2)) 3 (.int .i64 0)).alloc (Obj.cells #[.int .i64 ticks] 2)
    rw [alloc_size] at this
    exact this
  · have := Boxed.new ((w.alloc (Obj.cells #[.int .i64 ticks] 2)).alloc (Obj.cells #[.int .i64 0] 3)) 2 (.int .i64 ticks)
    rw [alloc_size, alloc_size] at this
    exact this
  · exact ((Boxed.new w _ _).alloc _).alloc _
  · have := Boxed.new ((w.alloc (Obj.cells #[.int .i64 ticks] 2)).alloc (Obj.cells #[.int .i64 ticks] 2)) 3 (.int .i64 0)
    rw [alloc_size, alloc_size] at this
    exact this
  · have := (Boxed.new (w.alloc (Obj.cells #[.int .i64 ticks] 2)) 2 (.int .i64 ticks)).alloc (Obj.cells #[.int .i64 0] 3)
    rw [alloc_size] at this
    exact this
/-- the place behind those that came -/
def lastP {m : Nat} (pre : List (Fin m)) : Nat := match pre.getLast? with | none => 0 | some x => x.val + 1
theorem lastP_snoc {m : Nat} (pre : List (Fin m)) (x : Fin m) : lastP (pre ++ [x]) = x.val + 1 := by simp [lastP]
theorem lastP_take {m k : Nat} (hk : k ≤ m) : lastP ((List.finRange m).take k) = k := by
  cases k with
  | zero => simp [lastP]
  | succ k => rw [fin_snoc (show k < m by omega), lastP_snoc]
/-- what Insert, and the store behind it, make of a chain -/
theorem insert_next {B : Nat} {W : World} {p : Nat} {v : Value} {ds : List (Int × Int)} (h : Ch B W p v ds) (hl : ds.length < 1000) {k : Nat} (hk : k ≤ ds.length) (x : Int × Int) (hB : B ≤ W.heap.size) :
    Calls Tryd.prog 76 #[v, .int .i64 (k : Int), .slice (some ⟨W.heap.size, 0, none⟩) 1 1] (W.alloc (Obj.cells #[.int .i64 x.1, .int .i64 x.2] 137)).drew fun e w' => ∃ g2 c2, e = .returned (.slice (some ⟨g2, 0, none⟩) (ds.length + 1) c2) ∧ Ch B (w'.setCell ⟨p, 1, none⟩ (.slice (some ⟨g2, 0, none⟩) (ds.length + 1) c2)) p (.slice (some ⟨g2, 0, none⟩) (ds.length + 1) c2) (ds.take k ++ x :: ds.drop k) ∧
      Buts (p :: v.ownBlock.toList) W (w'.setCell ⟨p, 1, none⟩ (.slice (some ⟨g2, 0, none⟩) (ds.length + 1) c2)) ∧ (v.ownBlock = some g2 ∨ W.heap.size ≤ g2) ∧ w'.cell? ⟨p, 1, none⟩ = some v ∧ w'.frozen? ⟨p, 1, none⟩ = false ∧ Buts v.ownBlock.toList W w' := by
  have hb0 : Below W.heap.size W (W.alloc (Obj.cells #[.int .i64 x.1, .int .i64 x.2] 137)).drew := (alloc_below W _).drew
  have hx : Arg (W.alloc (Obj.cells #[.int .i64 x.1, .int .i64 x.2] 137)).drew W.heap.size x := ⟨137, alloc_at W _⟩
  refine (insert_any (h.own.below hb0) (by omega) hk hx (fun g hg => by have := (h.own.lt' hg).2; omega) (by have := hb0.size; omega)).mono ?_
  rintro e w' ⟨g, cap, rfl, ho, hb, hg⟩
  have hb' : Buts v.ownBlock.toList W w' := (Buts.of hb0).trans hb
  have hg' : v.ownBlock = some g ∨ W.heap.size ≤ g := hg.imp id (fun h => by have := hb0.size; omega)
  obtain ⟨h1, h2⟩ := h.lay ho hb' (by simp; omega) (fun b hbk => by have : g = b := by simpa [Value.ownBlock] using hbk
                                                                    subst this; exact hg')
  have e : w'.heap[p]? = W.heap[p]? := hb'.block p (at_lt h.head) (fun hm => h.ne (by simpa using hm) rfl)
  exact ⟨g, cap, rfl, h1, h2, hg', by rw [World.cell?_of_block e]; exact h.lnk, by rw [World.frozen?_of_block e]; exact h.fp 1, hb'⟩
theorem Nx.putObj {B : Nat} {w w1 : World} {p : Nat} {v : Value} {es : List (Int × Int)} {D : Nat} (h : Nx B w w1 p v es) (hd : w1.heap[D]? = some (.deferred (some []))) (hD : w.heap.size ≤ D) : Nx B w (w1.putObj D (.deferred none)) p v es := by
  obtain ⟨v', hc, hb, hv⟩ := h
  have hbd : Buts [D] w1 (w1.putObj D (.deferred none)) := ⟨rfl, rfl, rfl, by simp, fun k _ hk => World.putObj_heap_other (by simpa using hk)⟩
  refine ⟨v', hc.buts hbd (fun hm => ?_) (fun g hg hm => ?_), ⟨hb.os, hb.tape, hb.output, Nat.le_trans hb.size (by simp), fun k hk hkl => ?_⟩, hv⟩
  · have : p = D := by simpa using hm
    rw [← this, hc.head] at hd; cases hd
  · obtain ⟨cur, hc2⟩ := hc.own.kind hg
    have : g = D := by simpa using hm
    rw [← this, hc2] at hd; cases hd
  · rw [World.putObj_heap_other (by omega)]
    exact hb.block k hk hkl
set_option maxHeartbeats 4000000 in
theorem add_any {B : Nat} {w : World} {p : Nat} {v : Value} {xs : List (Int × Int)} (h : Ch B w p v (dl 0 xs)) (hb : Bnd xs) (hl : xs.length < 1000) (who ticks : Int) (ht0 : 0 ≤ ticks) (ht1 : ticks ≤ 1073741824) (hB : B ≤ w.heap.size) :
    Calls Tryd.prog 53 #[.pointer (some ⟨p, 1, none⟩), .int .i64 who, .int .i64 ticks] w fun e w' => e = .returned (.tuple #[]) ∧ Nx B w w' p v (dl 0 (ins xs (who, ticks))) := by
  obtain ⟨sp, g, cap, hv, hsp, hgp, hgl, hcs⟩ := h.seq
  have hpl := at_lt h.head
  have hlk := h.lnk
  rw [hv] at hlk
  have HH : Hid (Ch B w p v (dl 0 xs)) := h
  have HV : Hid (v = .slice sp xs.length cap) := hv
  have HBD : Hid (Bnd xs) := hb
  have HF : Hid (∀ k, k < xs.length → IntKind.i64.wrap (lf xs k + bh xs k) = lf xs (k + 1)) := fun k hk => lf_wrap hb hk
  have HFB : Hid (∀ k, k ≤ xs.length → 0 ≤ lf xs k ∧ lf xs k ≤ 1073741824) := fun k hk => lf_bnd hb hk
  have hcs' : Hid (∀ k, k < xs.length → w.cell? ⟨g, k * 2 + 1, none⟩ = some (.int .i64 (bh xs k))) := fun k hk => (hcs k hk).2
  clear h hv hgp hb hcs
  obtain ⟨m, hm⟩ : ∃ m, xs.length = m := ⟨_, rfl⟩
  have HM : Hid (xs.length = m) := hm
  rw [hm] at hlk hcs' HF HFB hsp hl HV
  clear hm
  obtain ⟨F, hFe⟩ : ∃ F : Nat → Int, F = lf xs := ⟨_, rfl⟩
  have HFE : Hid (F = lf xs) := hFe
  have hF0 : Hid (F 0 = 0) := by show _ = _; rw [hFe]; exact lf_zero xs
  rw [← hFe] at HF HFB
  generalize bh xs = bd at HF hcs'
  clear hFe
  obtain ⟨t, ht⟩ : ∃ t, w.heap.size = t := ⟨_, rfl⟩
  have HT : Hid (w.heap.size = t) := ht
  have hmx : Tryd.prog.follows .mixedOrders = true := by kernel_rfl
  refine (callsIn_wide (n := 3)).1 ?_
  refine callsIn_of_wp_marks Tryd.func53 rfl trivial ?_ rfl
  simp only [Tryd.ntmps53, List.size_toArray, List.length_cons, List.length_nil, Nat.reduceAdd, Nat.reduceSub, Array.replicate_succ, Array.replicate_zero, List.push_toArray, List.append_toArray, List.nil_append, List.cons_append]
  gi_wp2
  rename_i K hK
  have key : ∀ (b6 b7 : Nat) (W : World), AB w W t b6 b7 ticks 0 ticks → K { tmps := #[.pointer (some ⟨p, 1, none⟩), .int .i64 who, .int .i64 ticks, undef, undef, .pointer (some ⟨t, 0, none⟩), .pointer (some ⟨b6, 0, none⟩), .pointer (some ⟨b7, 0, none⟩), undef, undef, .int .i64 ticks, undef, undef, undef, undef, undef, undef, undef, undef, undef, undef, undef, undef, undef, undef, undef, undef, undef, undef, undef, undef, undef, undef, undef, undef, undef, undef, undef, undef, undef, undef, undef], defers := [] } W := by
    intro b6 b7 W hAB
    refine hK _ _ ?_
    have HLK : Hid (w.cell? ⟨p, 1, none⟩ = some (.slice sp m cap)) := hlk
    rw [ht] at hgl hpl hB
    clear hK hlk ht
    have HAB : Hid (AB w W t b6 b7 ticks 0 ticks) := hAB
    clear hAB
    obtain ⟨WS, hWS⟩ : ∃ WS, W.heap.size = WS := ⟨_, rfl⟩
    gi_wp2_with (refine ⟨trivial, ?_⟩; gi_at_call 75; refine (callsIn_wide.2 (lefts_any p _)).mono ?_; rintro e w' ⟨rfl, rfl⟩)
    rename_i K2 hK2
    try rw [hWS]
    have key2 : ∀ (k D : Nat) (W : World), k ≤ m → (∀ i, i < k → F (i + 1) ≤ ticks) → (k < m → ticks < F (k + 1)) → AB w W t b6 b7 ticks (k : Int) (ticks - F k) → W.heap[D]? = some (.deferred (some [])) → t ≤ D → K2 { tmps := #[.pointer (some ⟨p, 1, none⟩), .int .i64 who, .int .i64 ticks, undef, undef, .pointer (some ⟨t, 0, none⟩), .pointer (some ⟨b6, 0, none⟩), .pointer (some ⟨b7, 0, none⟩), undef, undef, .int .i64 ticks, .pointer (some ⟨p, 1, none⟩), .func (.func 80) #[] #[.pointer (some ⟨WS, 0, none⟩)], undef, undef, undef, undef, undef, undef, undef, undef, undef, undef, undef, undef, undef, undef, undef, undef, undef, undef, undef, undef, undef, undef, undef, undef, undef, undef, undef, undef, undef], defers := [{ target := .collected D, args := #[] }] } W := by
      intro k D W1 hkm hlow hhigh hab hdef hD
      refine hK2 _ _ ?_
      have hch : Ch B W1 p v (dl 0 xs) := HH.out.below (by rw [HT.out]; exact hab.bel)
      have hdl := dl_len xs 0
      have HI := insert_next hch (show (dl 0 xs).length < 1000 by rw [hdl, HM.out]; exact hl) (show k ≤ (dl 0 xs).length by rw [hdl, HM.out]; exact hkm) (who, ticks - F k) (by have := hab.bel.size; have := HT.out; omega)
      rw [hdl, HM.out, HV.out] at HI
      have HI' : Hid (Calls Tryd.prog 76 #[.slice sp m cap, .int .i64 (k : Int), .slice (some ⟨W1.heap.size, 0, none⟩) 1 1] (W1.alloc (Obj.cells #[.int .i64 who, .int .i64 (ticks - F k)] 137)).drew fun e w' => ∃ g2 c2, e = .returned (.slice (some ⟨g2, 0, none⟩) (m + 1) c2) ∧ Ch B (w'.setCell ⟨p, 1, none⟩ (.slice (some ⟨g2, 0, none⟩) (m + 1) c2)) p (.slice (some ⟨g2, 0, none⟩) (m + 1) c2) ((dl 0 xs).take k ++ (who, ticks - F k) :: (dl 0 xs).drop k) ∧
          Buts (p :: (Value.slice sp m cap).ownBlock.toList) W1 (w'.setCell ⟨p, 1, none⟩ (.slice (some ⟨g2, 0, none⟩) (m + 1) c2)) ∧ ((Value.slice sp m cap).ownBlock = some g2 ∨ W1.heap.size ≤ g2) ∧ w'.cell? ⟨p, 1, none⟩ = some (.slice sp m cap) ∧ w'.frozen? ⟨p, 1, none⟩ = false ∧ Buts (Value.slice sp m cap).ownBlock.toList W1 w') := HI
      have HDE : Hid (shAt (k + 1) (-(ticks - F k)) ((dl 0 xs).take k ++ (who, ticks - F k) :: (dl 0 xs).drop k) = dl 0 (ins xs (who, ticks))) := by
        show _ = _
        rw [ins_at xs k (who, ticks) (by rw [HM.out]; exact hkm) (fun i hi => by
          have := hlow i hi
          rwa [HFE.out, lf_succ (by rw [HM.out]; omega)] at this) (fun h => by
          have := hhigh (by rw [← HM.out]; exact h)
          rwa [HFE.out, lf_succ h] at this), dl_ins xs k (by rw [HM.out]; exact hkm)]
        unfold shAt
        have ht : ((dl 0 xs).take k).length = k := by rw [List.length_take, hdl, HM.out]; omega
        have e1 : ((dl 0 xs).take k ++ (who, ticks - F k) :: (dl 0 xs).drop k) = ((dl 0 xs).take k ++ [(who, ticks - F k)]) ++ (dl 0 xs).drop k := by simp
        have hl2 : ((dl 0 xs).take k ++ [(who, ticks - F k)]).length = k + 1 := by rw [List.length_append, ht]; rfl
        rw [e1, List.take_left' hl2, List.drop_left' hl2, HFE.out]
        have e2 : -(ticks - lf xs k) = lst 0 (List.take k xs) - ticks := by unfold lf; omega
        rw [e2]
        simp [lf]
      have hFk := HFB.out k hkm
      have HW : Hid (k + 1 < ((dl 0 xs).take k ++ (who, ticks - F k) :: (dl 0 xs).drop k).length → IntKind.i64.wrap ((((dl 0 xs).take k ++ (who, ticks - F k) :: (dl 0 xs).drop k).getD (k + 1) (0, 0)).2 + -(ticks - F k)) = (((dl 0 xs).take k ++ (who, ticks - F k) :: (dl 0 xs).drop k).getD (k + 1) (0, 0)).2 + -(ticks - F k)) := by
        intro h1
        have ht : ((dl 0 xs).take k).length = k := by rw [List.length_take, hdl, HM.out]; omega
        have h2 : k < xs.length := by
          rw [List.length_append, ht, List.length_cons, List.length_drop, hdl] at h1
          omega
        have e : ((dl 0 xs).take k ++ (who, ticks - F k) :: (dl 0 xs).drop k).getD (k + 1) (0, 0) = (dl 0 xs).getD k (0, 0) := by
          rw [List.getD_eq_getElem?_getD, List.getElem?_append_right (by omega), ht, show k + 1 - k = 0 + 1 by omega, List.getElem?_cons_succ, List.getElem?_drop, Nat.add_zero, List.getD_eq_getElem?_getD]
        rw [e, dl_getD h2]
        have h3 := lf_bnd HBD.out (k := k) (by omega)
        have h4 := lf_bnd HBD.out (k := k + 1) (by omega)
        unfold bh
        rw [IntKind.wrap_i64]
        omega
      have c6 := hab.x6.cell
      have c7 := hab.x7.cell
      have c1 := hch.lnk
      rw [HV.out] at c1
      have HA : Hid (AB w W1 t b6 b7 ticks (k : Int) (ticks - F k)) := hab
      have HCH : Hid (Ch B W1 p v (dl 0 xs)) := hch
      have hp6 : p ≠ b6 := by have := hab.l6; omega
      have hp7 : p ≠ b7 := by have := hab.l7; omega
      have HKC : Hid (∀ w2, Buts (Value.slice sp m cap).ownBlock.toList W1 w2 → w2.cell? ⟨b6, 0, none⟩ = some (.int .i64 (k : Int)) ∧ w2.cell? ⟨b7, 0, none⟩ = some (.int .i64 (ticks - F k))) := fun w2 hb2 => by
        have hk : ∀ b ty z, Boxed W1 b ty z → ty ≠ 137 → w2.heap[b]? = W1.heap[b]? := fun b ty z hbx hne => hb2.block b hbx.lt (fun hm => by
          have hm' : v.ownBlock = some b := by rw [HV.out]; simpa using hm
          obtain ⟨cur, hc⟩ := HCH.out.own.kind hm'
          rw [show W1.heap[b]? = _ from hbx] at hc
          simp only [Option.some.injEq, Obj.cells.injEq] at hc
          exact hne hc.2.1)
        exact ⟨by rw [World.cell?_of_block (a := ⟨b6, 0, none⟩) (hk b6 _ _ HA.out.x6 (by decide))]; exact HA.out.x6.cell, by rw [World.cell?_of_block (a := ⟨b7, 0, none⟩) (hk b7 _ _ HA.out.x7 (by decide))]; exact HA.out.x7.cell⟩
      have hw1 : IntKind.i64.wrap ((k : Int) + 1) = (k : Int) + 1 := by rw [IntKind.wrap_i64]; omega
      have hw2 : IntKind.i64.wrap (-(ticks - F k)) = -(ticks - F k) := by rw [IntKind.wrap_i64]; omega
      have HC : Hid (((k : Int) + 1) = ((k + 1 : Nat) : Int)) := by show _ = _; omega
      have HDF : Hid (W1.heap[D]? = some (.deferred (some []))) := hdef
      clear hab hdef hK2 hlow hhigh hsp HI hch hdl
      generalize hz : ticks - F k = z at *
      have n1 : p ≠ W1.heap.size := by have := HCH.out.head; have := at_lt this; omega
      have n2 : b6 ≠ W1.heap.size := by have := HA.out.x6.lt; omega
      have n3 : b7 ≠ W1.heap.size := by have := HA.out.x7.lt; omega
      have n1' := Ne.symm n1
      have nn1 := World.new_ne W1 ⟨p, 1, none⟩ c1
      have kc6 : ∀ o : Obj, (W1.alloc o).cell? ⟨b6, 0, none⟩ = some (.int .i64 (k : Int)) := fun o => ((alloc_below W1 o).cell (p := ⟨b6, 0, none⟩) HA.out.x6.lt).trans c6
      have kc7 : ∀ o : Obj, (W1.alloc o).cell? ⟨b7, 0, none⟩ = some (.int .i64 z) := fun o => ((alloc_below W1 o).cell (p := ⟨b7, 0, none⟩) HA.out.x7.lt).trans c7
      have nn6 := World.new_ne W1 ⟨b6, 0, none⟩ c6
      have nn7 := World.new_ne W1 ⟨b7, 0, none⟩ c7
      have kc1 : ∀ o : Obj, (W1.alloc o).cell? ⟨p, 1, none⟩ = some (.slice sp m cap) := fun o => (alloc_below W1 o).cell (p := ⟨p, 1, none⟩) (by have := at_lt HCH.out.head; exact this) |>.trans c1
      have hp6' := Ne.symm hp6
      have hp7' := Ne.symm hp7
      have n2' := Ne.symm n2
      have n3' := Ne.symm n3
      gi_wp2
      rename_i K3 hK3
      have key3 : ∀ (g2 c2 : Nat) (w2 : World), Ch B (w2.setCell ⟨p, 1, none⟩ (.slice (some ⟨g2, 0, none⟩) (m + 1) c2)) p (.slice (some ⟨g2, 0, none⟩) (m + 1) c2) ((dl 0 xs).take k ++ (who, z) :: (dl 0 xs).drop k) → Buts (p :: (Value.slice sp m cap).ownBlock.toList) W1 (w2.setCell ⟨p, 1, none⟩ (.slice (some ⟨g2, 0, none⟩) (m + 1) c2)) → ((Value.slice sp m cap).ownBlock = some g2 ∨ W1.heap.size ≤ g2) → Buts (Value.slice sp m cap).ownBlock.toList W1 w2 → K3 { tmps := #[.pointer (some ⟨p, 1, none⟩), .int .i64 who, .int .i64 ticks, undef, undef, .pointer (some ⟨t, 0, none⟩), .pointer (some ⟨b6, 0, none⟩), .pointer (some ⟨b7, 0, none⟩), undef, undef, .int .i64 ticks, .pointer (some ⟨p, 1, none⟩), .func (.func 80) #[] #[.pointer (some ⟨WS, 0, none⟩)], undef, undef, undef, undef, undef, undef, undef, undef, undef, undef, .pointer (some ⟨p, 1, none⟩), .pointer (some ⟨p, 1, none⟩), .pointer (some ⟨p, 1, none⟩), .pointer (some ⟨p, 1, none⟩), .slice sp m cap, .int .i64 (k : Int), .int .i64 who, .int .i64 z, .agg #[.int .i64 who, .int .i64 z], .slice (some ⟨W1.heap.size, 0, none⟩) 1 1, .slice (some ⟨g2, 0, none⟩) (m + 1) c2, .pointer (some ⟨p, 1, none⟩), .pointer (some ⟨p, 1, none⟩), undef, undef, undef, undef, undef, undef], defers := [{ target := .collected D, args := #[] }] } (w2.setCell ⟨p, 1, none⟩ (.slice (some ⟨g2, 0, none⟩) (m + 1) c2)) := by
        intro g2 c2 w2 hc2 hb2 hg2 hb1
        have HC2 : Hid (Ch B (w2.setCell ⟨p, 1, none⟩ (.slice (some ⟨g2, 0, none⟩) (m + 1) c2)) p (.slice (some ⟨g2, 0, none⟩) (m + 1) c2) ((dl 0 xs).take k ++ (who, z) :: (dl 0 xs).drop k)) := hc2
        have HB2 : Hid (Buts (p :: (Value.slice sp m cap).ownBlock.toList) W1 (w2.setCell ⟨p, 1, none⟩ (.slice (some ⟨g2, 0, none⟩) (m + 1) c2))) := hb2
        have HG2 : Hid ((Value.slice sp m cap).ownBlock = some g2 ∨ W1.heap.size ≤ g2) := hg2
        clear hc2 hb2 hg2
        have HWM : Hid (∀ w3, Buts (Value.slice (some ⟨g2, 0, none⟩) (m + 1) c2).ownBlock.toList (w2.setCell ⟨p, 1, none⟩ (.slice (some ⟨g2, 0, none⟩) (m + 1) c2)) w3 → Buts (p :: v.ownBlock.toList) w w3 ∧ w3.heap[D]? = some (.deferred (some []))) := fun w3 hb3 => by
          have hbw := HA.out.bel
          have h2 := HB2.out
          have hgg := HG2.out
          rw [← HV.out] at h2 hgg
          have hs1 := hbw.size
          have hs2 := h2.size
          have hDl := at_lt HDF.out
          have hnot : ∀ k, k < W1.heap.size → k ∉ v.ownBlock.toList → k ∉ (Value.slice (some ⟨g2, 0, none⟩) (m + 1) c2).ownBlock.toList := fun k hk hv hm => by
            have e : k = g2 := by simpa [Value.ownBlock] using hm
            subst e
            rcases hgg with h | h
            · exact hv (by rw [h]; simp)
            · omega
          refine ⟨⟨(hb3.os.trans h2.os).trans hbw.os, (hb3.tape.trans h2.tape).trans hbw.tape, (hb3.output.trans h2.output).trans hbw.output, Nat.le_trans hs1 (Nat.le_trans hs2 hb3.size), fun b hb hbl => ?_⟩, ?_⟩
          · have hbW : b < W1.heap.size := by omega
            rw [hb3.block b (by omega) (hnot b hbW (fun h => hbl (List.mem_cons_of_mem _ h))), h2.block b hbW hbl]
            exact hbw.block b (by have := HT.out; omega)
          · have hDp : D ∉ p :: v.ownBlock.toList := by
              intro hm
              rcases List.mem_cons.1 hm with e | e
              · have := HDF.out; rw [e, HCH.out.head] at this; cases this
              · obtain ⟨cur, hc⟩ := HCH.out.own.kind (g := D) (by simpa using e)
                have := HDF.out; rw [hc] at this; cases this
            rw [hb3.block D (by omega) (hnot D hDl (fun h => hDp (List.mem_cons_of_mem _ h))), h2.block D hDl hDp]
            exact HDF.out
        have HVG : Hid (∀ b, (Value.slice (some ⟨g2, 0, none⟩) (m + 1) c2).ownBlock = some b → v.ownBlock = some b ∨ w.heap.size ≤ b) := fun b hb => by
          have e : g2 = b := by simpa [Value.ownBlock] using hb
          subst e
          have hgg := HG2.out
          rw [← HV.out] at hgg
          exact hgg.imp id (fun h => by have := HA.out.bel.size; omega)
        have k67 := HKC.out w2 hb1
        obtain ⟨k6, k7⟩ := k67
        have r6 : (w2.setCell ⟨p, 1, none⟩ (.slice (some ⟨g2, 0, none⟩) (m + 1) c2)).cell? ⟨b6, 0, none⟩ = some (.int .i64 (k : Int)) := by rw [World.cell?_setCell_other _ _ _ _ (by first | (simp; done) | (simp; omega))]; exact k6
        have r7 : (w2.setCell ⟨p, 1, none⟩ (.slice (some ⟨g2, 0, none⟩) (m + 1) c2)).cell? ⟨b7, 0, none⟩ = some (.int .i64 z) := by rw [World.cell?_setCell_other _ _ _ _ (by first | (simp; done) | (simp; omega))]; exact k7
        refine hK3 _ _ ?_
        refine wpIn_wide.2 ?_
        clear HB2 HG2 HKC kc1 kc6 kc7 HI' hb1 k6 k7 hK3
        generalize w2.setCell ⟨p, 1, none⟩ (.slice (some ⟨g2, 0, none⟩) (m + 1) c2) = w22 at *
        go_wp2_with (go_at_call 77; rw [HC.out]; refine (shift_any HC2.out (k + 1) (-z) HW.out).mono ?_; rintro e w3 ⟨rfl, hc3, hb3⟩; obtain ⟨hbw3, hD3⟩ := HWM.out w3 hb3; have HNX : Hid (Nx B w w3 p v (dl 0 (ins xs (who, ticks)))) := ⟨_, by rw [← HDE.out]; exact hc3, hbw3, HVG.out⟩; have HD3 : Hid (w3.heap[D]? = some (.deferred (some []))) := hD3; clear hc3 hb3 hbw3 hD3)
        refine ⟨by simp, .inl ⟨_, _, rfl, run_takeDeferred HD3.out, ?_⟩⟩
        exact ⟨_, results_none rfl _ _ _, rfl, HNX.out.putObj HD3.out (by have := HT.out; omega)⟩
      clear hK3 HDE HW HCH HA HDF HFB HF
      refine wpIn_mono (Q := fun e a w => match e with | .normal => K3 a w | _ => False) ?_ (fun e a w h => by cases e <;> first | exact h | exact h.elim)
      refine wpIn_region_any hmx ?_
      try (change wpAnyIn _ _ _ _ _ _ _ _ _ (World.drew _))
      refine wpAnyIn_take (i := 0) (v := ?vb1) rfl rfl (by kernel_rfl) (by kernel_rfl) (by kernel_rfl) (fun _ _ _ h => h) ⟨Or.inl ⟨by rfl, ?hyb1⟩, fun _ => rfl⟩ ?restb1
      case hyb1 => (intro w; go_simp; try with_reducible rfl)
      refine wpAnyIn_take (i := 1) (v := ?vb2) rfl rfl (by kernel_rfl) (by kernel_rfl) (by kernel_rfl) (fun _ _ _ h => h) ⟨Or.inl ⟨by rfl, ?hyb2⟩, fun _ => rfl⟩ ?restb2
      case hyb2 => (intro w; go_simp; try with_reducible rfl)
      refine wpAnyIn_take (i := 2) (v := ?vb3) rfl rfl (by kernel_rfl) (by kernel_rfl) (by kernel_rfl) (fun _ _ _ h => h) ⟨Or.inl ⟨by rfl, ?hyb3⟩, fun _ => rfl⟩ ?restb3
      case hyb3 => (intro w; go_simp; try with_reducible rfl)
      refine wpAnyIn_take (i := 3) (v := ?vb4) rfl rfl (by kernel_rfl) (by kernel_rfl) (by kernel_rfl) (fun _ _ _ h => h) ⟨Or.inl ⟨by rfl, ?hyb4⟩, fun _ => rfl⟩ ?restb4
      case hyb4 => (intro w; go_simp; try with_reducible rfl)
      refine wpAnyIn_take (i := 6) (v := ?vb5) rfl rfl (by kernel_rfl) (by kernel_rfl) (by kernel_rfl) (fun _ _ _ h => h) ⟨Or.inl ⟨by rfl, ?hyb5⟩, fun _ => rfl⟩ ?restb5
      case hyb5 => (intro w; go_simp; try with_reducible rfl)
      refine wpAnyIn_ready (rs := [4, 5, 7]) (by kernel_rfl) (by simp) ?_
      refine AllReadyIn.cons rfl (fun K hK => ?_) ?_
      · go_simp
        refine hK _ _ ?_
        clear hK K
        refine wpAnyIn_ready (rs := [5, 7]) (by kernel_rfl) (by simp) ?_
        refine AllReadyIn.cons rfl (fun K hK => ?_) ?_
        · go_simp
          refine hK _ _ ?_
          clear hK K
          refine wpAnyIn_ready (rs := [7]) (by kernel_rfl) (by simp) ?_
          refine AllReadyIn.cons rfl (fun K hK => ?_) AllReadyIn.nil
          go_simp
          refine hK _ _ ?_
          clear hK K
          refine wpAnyIn_take (i := 8) (v := ?vb6) rfl rfl (by kernel_rfl) (by kernel_rfl) (by kernel_rfl) (fun _ _ _ h => h) ⟨Or.inl ⟨by rfl, ?hyb6⟩, fun _ => rfl⟩ ?restb6
          case hyb6 => (intro w; go_simp; try with_reducible rfl)
          refine wpAnyIn_ready (rs := [9]) (by kernel_rfl) (by simp) ?_
          refine AllReadyIn.cons rfl (fun K hK => ?_) AllReadyIn.nil
          go_simp
          refine hK _ _ ?_
          clear hK K
          refine wpAnyIn_ready (rs := [10]) (by kernel_rfl) (by simp) ?_
          refine AllReadyIn.cons rfl (fun K hK => ?_) AllReadyIn.nil
          gi_wp2_with (refine ⟨trivial, ?_⟩; gi_at_call 76; refine (callsIn_wide.2 HI'.out).mono ?_; rintro e w2 ⟨g2, c2, rfl, hc2, hb2, hg2, k1, k2, hb1⟩; have HK3 : Hid (K3 { tmps := #[.pointer (some ⟨p, 1, none⟩), .int .i64 who, .int .i64 ticks, undef, undef, .pointer (some ⟨t, 0, none⟩), .pointer (some ⟨b6, 0, none⟩), .pointer (some ⟨b7, 0, none⟩), undef, undef, .int .i64 ticks, .pointer (some ⟨p, 1, none⟩), .func (.func 80) #[] #[.pointer (some ⟨WS, 0, none⟩)], undef, undef, undef, undef, undef, undef, undef, undef, undef, undef, .pointer (some ⟨p, 1, none⟩), .pointer (some ⟨p, 1, none⟩), .pointer (some ⟨p, 1, none⟩), .pointer (some ⟨p, 1, none⟩), .slice sp m cap, .int .i64 (k : Int), .int .i64 who, .int .i64 z, .agg #[.int .i64 who, .int .i64 z], .slice (some ⟨W1.heap.size, 0, none⟩) 1 1, .slice (some ⟨g2, 0, none⟩) (m + 1) c2, .pointer (some ⟨p, 1, none⟩), .pointer (some ⟨p, 1, none⟩), undef, undef, undef, undef, undef, undef], defers := [{ target := .collected D, args := #[] }] } (w2.setCell ⟨p, 1, none⟩ (.slice (some ⟨g2, 0, none⟩) (m + 1) c2))) := key3 g2 c2 w2 hc2 hb2 hg2 hb1; clear hc2 hb2 hg2 hb1)
          refine wpAnyIn_take (i := 11) (v := ?vb7) rfl rfl (by kernel_rfl) (by kernel_rfl) (by kernel_rfl) (fun _ _ _ h => h) ⟨Or.inl ⟨by rfl, ?hyb7⟩, fun _ => rfl⟩ ?restb7
          case hyb7 => (intro w; go_simp; try with_reducible rfl)
          refine wpAnyIn_take (i := 12) (v := ?vb8) rfl rfl (by kernel_rfl) (by kernel_rfl) (by kernel_rfl) (fun _ _ _ h => h) ⟨Or.inl ⟨by rfl, ?hyb8⟩, fun _ => rfl⟩ ?restb8
          case hyb8 => (intro w; go_simp; try with_reducible rfl)
          refine wpAnyIn_ready (rs := [13]) (by kernel_rfl) (by simp) ?_
          refine AllReadyIn.cons rfl (fun K hK => ?_) AllReadyIn.nil
          go_simp
          refine hK _ _ ?_
          clear hK K
          refine wpAnyIn_done (by kernel_rfl) ?_ _
          exact HK3.out
        refine AllReadyIn.cons rfl (fun K hK => ?_) AllReadyIn.nil
        go_simp
        refine hK _ _ ?_
        clear hK K
        refine wpAnyIn_take (i := 8) (v := ?vb9) rfl rfl (by kernel_rfl) (by kernel_rfl) (by kernel_rfl) (fun _ _ _ h => h) ⟨Or.inl ⟨by rfl, ?hyb9⟩, fun _ => rfl⟩ ?restb9
        case hyb9 => (intro w; go_simp; try with_reducible rfl)
        refine wpAnyIn_ready (rs := [5, 9]) (by kernel_rfl) (by simp) ?_
        refine AllReadyIn.cons rfl (fun K hK => ?_) ?_
        · go_simp
          refine hK _ _ ?_
          clear hK K
          refine wpAnyIn_ready (rs := [9]) (by kernel_rfl) (by simp) ?_
          refine AllReadyIn.cons rfl (fun K hK => ?_) AllReadyIn.nil
          go_simp
          refine hK _ _ ?_
          clear hK K
          refine wpAnyIn_ready (rs := [10]) (by kernel_rfl) (by simp) ?_
          refine AllReadyIn.cons rfl (fun K hK => ?_) AllReadyIn.nil
          gi_wp2_with (refine ⟨trivial, ?_⟩; gi_at_call 76; refine (callsIn_wide.2 HI'.out).mono ?_; rintro e w2 ⟨g2, c2, rfl, hc2, hb2, hg2, k1, k2, hb1⟩; have HK3 : Hid (K3 { tmps := #[.pointer (some ⟨p, 1, none⟩), .int .i64 who, .int .i64 ticks, undef, undef, .pointer (some ⟨t, 0, none⟩), .pointer (some ⟨b6, 0, none⟩), .pointer (some ⟨b7, 0, none⟩), undef, undef, .int .i64 ticks, .pointer (some ⟨p, 1, none⟩), .func (.func 80) #[] #[.pointer (some ⟨WS, 0, none⟩)], undef, undef, undef, undef, undef, undef, undef, undef, undef, undef, .pointer (some ⟨p, 1, none⟩), .pointer (some ⟨p, 1, none⟩), .pointer (some ⟨p, 1, none⟩), .pointer (some ⟨p, 1, none⟩), .slice sp m cap, .int .i64 (k : Int), .int .i64 who, .int .i64 z, .agg #[.int .i64 who, .int .i64 z], .slice (some ⟨W1.heap.size, 0, none⟩) 1 1, .slice (some ⟨g2, 0, none⟩) (m + 1) c2, .pointer (some ⟨p, 1, none⟩), .pointer (some ⟨p, 1, none⟩), undef, undef, undef, undef, undef, undef], defers := [{ target := .collected D, args := #[] }] } (w2.setCell ⟨p, 1, none⟩ (.slice (some ⟨g2, 0, none⟩) (m + 1) c2))) := key3 g2 c2 w2 hc2 hb2 hg2 hb1; clear hc2 hb2 hg2 hb1)
          refine wpAnyIn_take (i := 11) (v := ?vb10) rfl rfl (by kernel_rfl) (by kernel_rfl) (by kernel_rfl) (fun _ _ _ h => h) ⟨Or.inl ⟨by rfl, ?hyb10⟩, fun _ => rfl⟩ ?restb10
          case hyb10 => (intro w; go_simp; try with_reducible rfl)
          refine wpAnyIn_take (i := 12) (v := ?vb11) rfl rfl (by kernel_rfl) (by kernel_rfl) (by kernel_rfl) (fun _ _ _ h => h) ⟨Or.inl ⟨by rfl, ?hyb11⟩, fun _ => rfl⟩ ?restb11
          case hyb11 => (intro w; go_simp; try with_reducible rfl)
          refine wpAnyIn_ready (rs := [13]) (by kernel_rfl) (by simp) ?_
          refine AllReadyIn.cons rfl (fun K hK => ?_) AllReadyIn.nil
          go_simp
          refine hK _ _ ?_
          clear hK K
          refine wpAnyIn_done (by kernel_rfl) ?_ _
          exact HK3.out
        refine AllReadyIn.cons rfl (fun K hK => ?_) AllReadyIn.nil
        go_simp
        refine hK _ _ ?_
        clear hK K
        refine wpAnyIn_ready (rs := [5]) (by kernel_rfl) (by simp) ?_
        refine AllReadyIn.cons rfl (fun K hK => ?_) AllReadyIn.nil
        go_simp
        refine hK _ _ ?_
        clear hK K
        refine wpAnyIn_ready (rs := [10]) (by kernel_rfl) (by simp) ?_
        refine AllReadyIn.cons rfl (fun K hK => ?_) AllReadyIn.nil
        gi_wp2_with (refine ⟨trivial, ?_⟩; gi_at_call 76; refine (callsIn_wide.2 HI'.out).mono ?_; rintro e w2 ⟨g2, c2, rfl, hc2, hb2, hg2, k1, k2, hb1⟩; have HK3 : Hid (K3 { tmps := #[.pointer (some ⟨p, 1, none⟩), .int .i64 who, .int .i64 ticks, undef, undef, .pointer (some ⟨t, 0, none⟩), .pointer (some ⟨b6, 0, none⟩), .pointer (some ⟨b7, 0, none⟩), undef, undef, .int .i64 ticks, .pointer (some ⟨p, 1, none⟩), .func (.func 80) #[] #[.pointer (some ⟨WS, 0, none⟩)], undef, undef, undef, undef, undef, undef, undef, undef, undef, undef, .pointer (some ⟨p, 1, none⟩), .pointer (some ⟨p, 1, none⟩), .pointer (some ⟨p, 1, none⟩), .pointer (some ⟨p, 1, none⟩), .slice sp m cap, .int .i64 (k : Int), .int .i64 who, .int .i64 z, .agg #[.int .i64 who, .int .i64 z], .slice (some ⟨W1.heap.size, 0, none⟩) 1 1, .slice (some ⟨g2, 0, none⟩) (m + 1) c2, .pointer (some ⟨p, 1, none⟩), .pointer (some ⟨p, 1, none⟩), undef, undef, undef, undef, undef, undef], defers := [{ target := .collected D, args := #[] }] } (w2.setCell ⟨p, 1, none⟩ (.slice (some ⟨g2, 0, none⟩) (m + 1) c2))) := key3 g2 c2 w2 hc2 hb2 hg2 hb1; clear hc2 hb2 hg2 hb1)
        refine wpAnyIn_take (i := 11) (v := ?vb12) rfl rfl (by kernel_rfl) (by kernel_rfl) (by kernel_rfl) (fun _ _ _ h => h) ⟨Or.inl ⟨by rfl, ?hyb12⟩, fun _ => rfl⟩ ?restb12
        case hyb12 => (intro w; go_simp; try with_reducible rfl)
        refine wpAnyIn_take (i := 12) (v := ?vb13) rfl rfl (by kernel_rfl) (by kernel_rfl) (by kernel_rfl) (fun _ _ _ h => h) ⟨Or.inl ⟨by rfl, ?hyb13⟩, fun _ => rfl⟩ ?restb13
        case hyb13 => (intro w; go_simp; try with_reducible rfl)
        refine wpAnyIn_ready (rs := [13]) (by kernel_rfl) (by simp) ?_
        refine AllReadyIn.cons rfl (fun K hK => ?_) AllReadyIn.nil
        go_simp
        refine hK _ _ ?_
        clear hK K
        refine wpAnyIn_done (by kernel_rfl) ?_ _
        exact HK3.out
      refine AllReadyIn.cons rfl (fun K hK => ?_) ?_
      · go_simp
        refine hK _ _ ?_
        clear hK K
        refine wpAnyIn_ready (rs := [4, 7]) (by kernel_rfl) (by simp) ?_
        refine AllReadyIn.cons rfl (fun K hK => ?_) ?_
        · go_simp
          refine hK _ _ ?_
          clear hK K
          refine wpAnyIn_ready (rs := [7]) (by kernel_rfl) (by simp) ?_
          refine AllReadyIn.cons rfl (fun K hK => ?_) AllReadyIn.nil
          go_simp
          refine hK _ _ ?_
          clear hK K
          refine wpAnyIn_take (i := 8) (v := ?vb14) rfl rfl (by kernel_rfl) (by kernel_rfl) (by kernel_rfl) (fun _ _ _ h => h) ⟨Or.inl ⟨by rfl, ?hyb14⟩, fun _ => rfl⟩ ?restb14
          case hyb14 => (intro w; go_simp; try with_reducible rfl)
          refine wpAnyIn_ready (rs := [9]) (by kernel_rfl) (by simp) ?_
          refine AllReadyIn.cons rfl (fun K hK => ?_) AllReadyIn.nil
          go_simp
          refine hK _ _ ?_
          clear hK K
          refine wpAnyIn_ready (rs := [10]) (by kernel_rfl) (by simp) ?_
          refine AllReadyIn.cons rfl (fun K hK => ?_) AllReadyIn.nil
          gi_wp2_with (refine ⟨trivial, ?_⟩; gi_at_call 76; refine (callsIn_wide.2 HI'.out).mono ?_; rintro e w2 ⟨g2, c2, rfl, hc2, hb2, hg2, k1, k2, hb1⟩; have HK3 : Hid (K3 { tmps := #[.pointer (some ⟨p, 1, none⟩), .int .i64 who, .int .i64 ticks, undef, undef, .pointer (some ⟨t, 0, none⟩), .pointer (some ⟨b6, 0, none⟩), .pointer (some ⟨b7, 0, none⟩), undef, undef, .int .i64 ticks, .pointer (some ⟨p, 1, none⟩), .func (.func 80) #[] #[.pointer (some ⟨WS, 0, none⟩)], undef, undef, undef, undef, undef, undef, undef, undef, undef, undef, .pointer (some ⟨p, 1, none⟩), .pointer (some ⟨p, 1, none⟩), .pointer (some ⟨p, 1, none⟩), .pointer (some ⟨p, 1, none⟩), .slice sp m cap, .int .i64 (k : Int), .int .i64 who, .int .i64 z, .agg #[.int .i64 who, .int .i64 z], .slice (some ⟨W1.heap.size, 0, none⟩) 1 1, .slice (some ⟨g2, 0, none⟩) (m + 1) c2, .pointer (some ⟨p, 1, none⟩), .pointer (some ⟨p, 1, none⟩), undef, undef, undef, undef, undef, undef], defers := [{ target := .collected D, args := #[] }] } (w2.setCell ⟨p, 1, none⟩ (.slice (some ⟨g2, 0, none⟩) (m + 1) c2))) := key3 g2 c2 w2 hc2 hb2 hg2 hb1; clear hc2 hb2 hg2 hb1)
          refine wpAnyIn_take (i := 11) (v := ?vb15) rfl rfl (by kernel_rfl) (by kernel_rfl) (by kernel_rfl) (fun _ _ _ h => h) ⟨Or.inl ⟨by rfl, ?hyb15⟩, fun _ => rfl⟩ ?restb15
          case hyb15 => (intro w; go_simp; try with_reducible rfl)
          refine wpAnyIn_take (i := 12) (v := ?vb16) rfl rfl (by kernel_rfl) (by kernel_rfl) (by kernel_rfl) (fun _ _ _ h => h) ⟨Or.inl ⟨by rfl, ?hyb16⟩, fun _ => rfl⟩ ?restb16
          case hyb16 => (intro w; go_simp; try with_reducible rfl)
          refine wpAnyIn_ready (rs := [13]) (by kernel_rfl) (by simp) ?_
          refine AllReadyIn.cons rfl (fun K hK => ?_) AllReadyIn.nil
          go_simp
          refine hK _ _ ?_
          clear hK K
          refine wpAnyIn_done (by kernel_rfl) ?_ _
          exact HK3.out
        refine AllReadyIn.cons rfl (fun K hK => ?_) AllReadyIn.nil
        go_simp
        refine hK _ _ ?_
        clear hK K
        refine wpAnyIn_take (i := 8) (v := ?vb17) rfl rfl (by kernel_rfl) (by kernel_rfl) (by kernel_rfl) (fun _ _ _ h => h) ⟨Or.inl ⟨by rfl, ?hyb17⟩, fun _ => rfl⟩ ?restb17
        case hyb17 => (intro w; go_simp; try with_reducible rfl)
        refine wpAnyIn_ready (rs := [4, 9]) (by kernel_rfl) (by simp) ?_
        refine AllReadyIn.cons rfl (fun K hK => ?_) ?_
        · go_simp
          refine hK _ _ ?_
          clear hK K
          refine wpAnyIn_ready (rs := [9]) (by kernel_rfl) (by simp) ?_
          refine AllReadyIn.cons rfl (fun K hK => ?_) AllReadyIn.nil
          go_simp
          refine hK _ _ ?_
          clear hK K
          refine wpAnyIn_ready (rs := [10]) (by kernel_rfl) (by simp) ?_
          refine AllReadyIn.cons rfl (fun K hK => ?_) AllReadyIn.nil
          gi_wp2_with (refine ⟨trivial, ?_⟩; gi_at_call 76; refine (callsIn_wide.2 HI'.out).mono ?_; rintro e w2 ⟨g2, c2, rfl, hc2, hb2, hg2, k1, k2, hb1⟩; have HK3 : Hid (K3 { tmps := #[.pointer (some ⟨p, 1, none⟩), .int .i64 who, .int .i64 ticks, undef, undef, .pointer (some ⟨t, 0, none⟩), .pointer (some ⟨b6, 0, none⟩), .pointer (some ⟨b7, 0, none⟩), undef, undef, .int .i64 ticks, .pointer (some ⟨p, 1, none⟩), .func (.func 80) #[] #[.pointer (some ⟨WS, 0, none⟩)], undef, undef, undef, undef, undef, undef, undef, undef, undef, undef, .pointer (some ⟨p, 1, none⟩), .pointer (some ⟨p, 1, none⟩), .pointer (some ⟨p, 1, none⟩), .pointer (some ⟨p, 1, none⟩), .slice sp m cap, .int .i64 (k : Int), .int .i64 who, .int .i64 z, .agg #[.int .i64 who, .int .i64 z], .slice (some ⟨W1.heap.size, 0, none⟩) 1 1, .slice (some ⟨g2, 0, none⟩) (m + 1) c2, .pointer (some ⟨p, 1, none⟩), .pointer (some ⟨p, 1, none⟩), undef, undef, undef, undef, undef, undef], defers := [{ target := .collected D, args := #[] }] } (w2.setCell ⟨p, 1, none⟩ (.slice (some ⟨g2, 0, none⟩) (m + 1) c2))) := key3 g2 c2 w2 hc2 hb2 hg2 hb1; clear hc2 hb2 hg2 hb1)
          refine wpAnyIn_take (i := 11) (v := ?vb18) rfl rfl (by kernel_rfl) (by kernel_rfl) (by kernel_rfl) (fun _ _ _ h => h) ⟨Or.inl ⟨by rfl, ?hyb18⟩, fun _ => rfl⟩ ?restb18
          case hyb18 => (intro w; go_simp; try with_reducible rfl)
          refine wpAnyIn_take (i := 12) (v := ?vb19) rfl rfl (by kernel_rfl) (by kernel_rfl) (by kernel_rfl) (fun _ _ _ h => h) ⟨Or.inl ⟨by rfl, ?hyb19⟩, fun _ => rfl⟩ ?restb19
          case hyb19 => (intro w; go_simp; try with_reducible rfl)
          refine wpAnyIn_ready (rs := [13]) (by kernel_rfl) (by simp) ?_
          refine AllReadyIn.cons rfl (fun K hK => ?_) AllReadyIn.nil
          go_simp
          refine hK _ _ ?_
          clear hK K
          refine wpAnyIn_done (by kernel_rfl) ?_ _
          exact HK3.out
        refine AllReadyIn.cons rfl (fun K hK => ?_) AllReadyIn.nil
        go_simp
        refine hK _ _ ?_
        clear hK K
        refine wpAnyIn_ready (rs := [4]) (by kernel_rfl) (by simp) ?_
        refine AllReadyIn.cons rfl (fun K hK => ?_) AllReadyIn.nil
        go_simp
        refine hK _ _ ?_
        clear hK K
        refine wpAnyIn_ready (rs := [10]) (by kernel_rfl) (by simp) ?_
        refine AllReadyIn.cons rfl (fun K hK => ?_) AllReadyIn.nil
        gi_wp2_with (refine ⟨trivial, ?_⟩; gi_at_call 76; refine (callsIn_wide.2 HI'.out).mono ?_; rintro e w2 ⟨g2, c2, rfl, hc2, hb2, hg2, k1, k2, hb1⟩; have HK3 : Hid (K3 { tmps := #[.pointer (some ⟨p, 1, none⟩), .int .i64 who, .int .i64 ticks, undef, undef, .pointer (some ⟨t, 0, none⟩), .pointer (some ⟨b6, 0, none⟩), .pointer (some ⟨b7, 0, none⟩), undef, undef, .int .i64 ticks, .pointer (some ⟨p, 1, none⟩), .func (.func 80) #[] #[.pointer (some ⟨WS, 0, none⟩)], undef, undef, undef, undef, undef, undef, undef, undef, undef, undef, .pointer (some ⟨p, 1, none⟩), .pointer (some ⟨p, 1, none⟩), .pointer (some ⟨p, 1, none⟩), .pointer (some ⟨p, 1, none⟩), .slice sp m cap, .int .i64 (k : Int), .int .i64 who, .int .i64 z, .agg #[.int .i64 who, .int .i64 z], .slice (some ⟨W1.heap.size, 0, none⟩) 1 1, .slice (some ⟨g2, 0, none⟩) (m + 1) c2, .pointer (some ⟨p, 1, none⟩), .pointer (some ⟨p, 1, none⟩), undef, undef, undef, undef, undef, undef], defers := [{ target := .collected D, args := #[] }] } (w2.setCell ⟨p, 1, none⟩ (.slice (some ⟨g2, 0, none⟩) (m + 1) c2))) := key3 g2 c2 w2 hc2 hb2 hg2 hb1; clear hc2 hb2 hg2 hb1)
        refine wpAnyIn_take (i := 11) (v := ?vb20) rfl rfl (by kernel_rfl) (by kernel_rfl) (by kernel_rfl) (fun _ _ _ h => h) ⟨Or.inl ⟨by rfl, ?hyb20⟩, fun _ => rfl⟩ ?restb20
        case hyb20 => (intro w; go_simp; try with_reducible rfl)
        refine wpAnyIn_take (i := 12) (v := ?vb21) rfl rfl (by kernel_rfl) (by kernel_rfl) (by kernel_rfl) (fun _ _ _ h => h) ⟨Or.inl ⟨by rfl, ?hyb21⟩, fun _ => rfl⟩ ?restb21
        case hyb21 => (intro w; go_simp; try with_reducible rfl)
        refine wpAnyIn_ready (rs := [13]) (by kernel_rfl) (by simp) ?_
        refine AllReadyIn.cons rfl (fun K hK => ?_) AllReadyIn.nil
        go_simp
        refine hK _ _ ?_
        clear hK K
        refine wpAnyIn_done (by kernel_rfl) ?_ _
        exact HK3.out
      refine AllReadyIn.cons rfl (fun K hK => ?_) AllReadyIn.nil
      go_simp
      refine hK _ _ ?_
      clear hK K
      refine wpAnyIn_take (i := 8) (v := ?vb22) rfl rfl (by kernel_rfl) (by kernel_rfl) (by kernel_rfl) (fun _ _ _ h => h) ⟨Or.inl ⟨by rfl, ?hyb22⟩, fun _ => rfl⟩ ?restb22
      case hyb22 => (intro w; go_simp; try with_reducible rfl)
      refine wpAnyIn_ready (rs := [4, 5, 9]) (by kernel_rfl) (by simp) ?_
      refine AllReadyIn.cons rfl (fun K hK => ?_) ?_
      · go_simp
        refine hK _ _ ?_
        clear hK K
        refine wpAnyIn_ready (rs := [5, 9]) (by kernel_rfl) (by simp) ?_
        refine AllReadyIn.cons rfl (fun K hK => ?_) ?_
        · go_simp
          refine hK _ _ ?_
          clear hK K
          refine wpAnyIn_ready (rs := [9]) (by kernel_rfl) (by simp) ?_
          refine AllReadyIn.cons rfl (fun K hK => ?_) AllReadyIn.nil
          go_simp
          refine hK _ _ ?_
          clear hK K
          refine wpAnyIn_ready (rs := [10]) (by kernel_rfl) (by simp) ?_
          refine AllReadyIn.cons rfl (fun K hK => ?_) AllReadyIn.nil
          gi_wp2_with (refine ⟨trivial, ?_⟩; gi_at_call 76; refine (callsIn_wide.2 HI'.out).mono ?_; rintro e w2 ⟨g2, c2, rfl, hc2, hb2, hg2, k1, k2, hb1⟩; have HK3 : Hid (K3 { tmps := #[.pointer (some ⟨p, 1, none⟩), .int .i64 who, .int .i64 ticks, undef, undef, .pointer (some ⟨t, 0, none⟩), .pointer (some ⟨b6, 0, none⟩), .pointer (some ⟨b7, 0, none⟩), undef, undef, .int .i64 ticks, .pointer (some ⟨p, 1, none⟩), .func (.func 80) #[] #[.pointer (some ⟨WS, 0, none⟩)], undef, undef, undef, undef, undef, undef, undef, undef, undef, undef, .pointer (some ⟨p, 1, none⟩), .pointer (some ⟨p, 1, none⟩), .pointer (some ⟨p, 1, none⟩), .pointer (some ⟨p, 1, none⟩), .slice sp m cap, .int .i64 (k : Int), .int .i64 who, .int .i64 z, .agg #[.int .i64 who, .int .i64 z], .slice (some ⟨W1.heap.size, 0, none⟩) 1 1, .slice (some ⟨g2, 0, none⟩) (m + 1) c2, .pointer (some ⟨p, 1, none⟩), .pointer (some ⟨p, 1, none⟩), undef, undef, undef, undef, undef, undef], defers := [{ target := .collected D, args := #[] }] } (w2.setCell ⟨p, 1, none⟩ (.slice (some ⟨g2, 0, none⟩) (m + 1) c2))) := key3 g2 c2 w2 hc2 hb2 hg2 hb1; clear hc2 hb2 hg2 hb1)
          refine wpAnyIn_take (i := 11) (v := ?vb23) rfl rfl (by kernel_rfl) (by kernel_rfl) (by kernel_rfl) (fun _ _ _ h => h) ⟨Or.inl ⟨by rfl, ?hyb23⟩, fun _ => rfl⟩ ?restb23
          case hyb23 => (intro w; go_simp; try with_reducible rfl)
          refine wpAnyIn_take (i := 12) (v := ?vb24) rfl rfl (by kernel_rfl) (by kernel_rfl) (by kernel_rfl) (fun _ _ _ h => h) ⟨Or.inl ⟨by rfl, ?hyb24⟩, fun _ => rfl⟩ ?restb24
          case hyb24 => (intro w; go_simp; try with_reducible rfl)
          refine wpAnyIn_ready (rs := [13]) (by kernel_rfl) (by simp) ?_
          refine AllReadyIn.cons rfl (fun K hK => ?_) AllReadyIn.nil
          go_simp
          refine hK _ _ ?_
          clear hK K
          refine wpAnyIn_done (by kernel_rfl) ?_ _
          exact HK3.out
        refine AllReadyIn.cons rfl (fun K hK => ?_) AllReadyIn.nil
        go_simp
        refine hK _ _ ?_
        clear hK K
        refine wpAnyIn_ready (rs := [5]) (by kernel_rfl) (by simp) ?_
        refine AllReadyIn.cons rfl (fun K hK => ?_) AllReadyIn.nil
        go_simp
        refine hK _ _ ?_
        clear hK K
        refine wpAnyIn_ready (rs := [10]) (by kernel_rfl) (by simp) ?_
        refine AllReadyIn.cons rfl (fun K hK => ?_) AllReadyIn.nil
        gi_wp2_with (refine ⟨trivial, ?_⟩; gi_at_call 76; refine (callsIn_wide.2 HI'.out).mono ?_; rintro e w2 ⟨g2, c2, rfl, hc2, hb2, hg2, k1, k2, hb1⟩; have HK3 : Hid (K3 { tmps := #[.pointer (some ⟨p, 1, none⟩), .int .i64 who, .int .i64 ticks, undef, undef, .pointer (some ⟨t, 0, none⟩), .pointer (some ⟨b6, 0, none⟩), .pointer (some ⟨b7, 0, none⟩), undef, undef, .int .i64 ticks, .pointer (some ⟨p, 1, none⟩), .func (.func 80) #[] #[.pointer (some ⟨WS, 0, none⟩)], undef, undef, undef, undef, undef, undef, undef, undef, undef, undef, .pointer (some ⟨p, 1, none⟩), .pointer (some ⟨p, 1, none⟩), .pointer (some ⟨p, 1, none⟩), .pointer (some ⟨p, 1, none⟩), .slice sp m cap, .int .i64 (k : Int), .int .i64 who, .int .i64 z, .agg #[.int .i64 who, .int .i64 z], .slice (some ⟨W1.heap.size, 0, none⟩) 1 1, .slice (some ⟨g2, 0, none⟩) (m + 1) c2, .pointer (some ⟨p, 1, none⟩), .pointer (some ⟨p, 1, none⟩), undef, undef, undef, undef, undef, undef], defers := [{ target := .collected D, args := #[] }] } (w2.setCell ⟨p, 1, none⟩ (.slice (some ⟨g2, 0, none⟩) (m + 1) c2))) := key3 g2 c2 w2 hc2 hb2 hg2 hb1; clear hc2 hb2 hg2 hb1)
        refine wpAnyIn_take (i := 11) (v := ?vb25) rfl rfl (by kernel_rfl) (by kernel_rfl) (by kernel_rfl) (fun _ _ _ h => h) ⟨Or.inl ⟨by rfl, ?hyb25⟩, fun _ => rfl⟩ ?restb25
        case hyb25 => (intro w; go_simp; try with_reducible rfl)
        refine wpAnyIn_take (i := 12) (v := ?vb26) rfl rfl (by kernel_rfl) (by kernel_rfl) (by kernel_rfl) (fun _ _ _ h => h) ⟨Or.inl ⟨by rfl, ?hyb26⟩, fun _ => rfl⟩ ?restb26
        case hyb26 => (intro w; go_simp; try with_reducible rfl)
        refine wpAnyIn_ready (rs := [13]) (by kernel_rfl) (by simp) ?_
        refine AllReadyIn.cons rfl (fun K hK => ?_) AllReadyIn.nil
        go_simp
        refine hK _ _ ?_
        clear hK K
        refine wpAnyIn_done (by kernel_rfl) ?_ _
        exact HK3.out
      refine AllReadyIn.cons rfl (fun K hK => ?_) ?_
      · go_simp
        refine hK _ _ ?_
        clear hK K
        refine wpAnyIn_ready (rs := [4, 9]) (by kernel_rfl) (by simp) ?_
        refine AllReadyIn.cons rfl (fun K hK => ?_) ?_
        · go_simp
          refine hK _ _ ?_
          clear hK K
          refine wpAnyIn_ready (rs := [9]) (by kernel_rfl) (by simp) ?_
          refine AllReadyIn.cons rfl (fun K hK => ?_) AllReadyIn.nil
          go_simp
          refine hK _ _ ?_
          clear hK K
          refine wpAnyIn_ready (rs := [10]) (by kernel_rfl) (by simp) ?_
          refine AllReadyIn.cons rfl (fun K hK => ?_) AllReadyIn.nil
          gi_wp2_with (refine ⟨trivial, ?_⟩; gi_at_call 76; refine (callsIn_wide.2 HI'.out).mono ?_; rintro e w2 ⟨g2, c2, rfl, hc2, hb2, hg2, k1, k2, hb1⟩; have HK3 : Hid (K3 { tmps := #[.pointer (some ⟨p, 1, none⟩), .int .i64 who, .int .i64 ticks, undef, undef, .pointer (some ⟨t, 0, none⟩), .pointer (some ⟨b6, 0, none⟩), .pointer (some ⟨b7, 0, none⟩), undef, undef, .int .i64 ticks, .pointer (some ⟨p, 1, none⟩), .func (.func 80) #[] #[.pointer (some ⟨WS, 0, none⟩)], undef, undef, undef, undef, undef, undef, undef, undef, undef, undef, .pointer (some ⟨p, 1, none⟩), .pointer (some ⟨p, 1, none⟩), .pointer (some ⟨p, 1, none⟩), .pointer (some ⟨p, 1, none⟩), .slice sp m cap, .int .i64 (k : Int), .int .i64 who, .int .i64 z, .agg #[.int .i64 who, .int .i64 z], .slice (some ⟨W1.heap.size, 0, none⟩) 1 1, .slice (some ⟨g2, 0, none⟩) (m + 1) c2, .pointer (some ⟨p, 1, none⟩), .pointer (some ⟨p, 1, none⟩), undef, undef, undef, undef, undef, undef], defers := [{ target := .collected D, args := #[] }] } (w2.setCell ⟨p, 1, none⟩ (.slice (some ⟨g2, 0, none⟩) (m + 1) c2))) := key3 g2 c2 w2 hc2 hb2 hg2 hb1; clear hc2 hb2 hg2 hb1)
          refine wpAnyIn_take (i := 11) (v := ?vb27) rfl rfl (by kernel_rfl) (by kernel_rfl) (by kernel_rfl) (fun _ _ _ h => h) ⟨Or.inl ⟨by rfl, ?hyb27⟩, fun _ => rfl⟩ ?restb27
          case hyb27 => (intro w; go_simp; try with_reducible rfl)
          refine wpAnyIn_take (i := 12) (v := ?vb28) rfl rfl (by kernel_rfl) (by kernel_rfl) (by kernel_rfl) (fun _ _ _ h => h) ⟨Or.inl ⟨by rfl, ?hyb28⟩, fun _ => rfl⟩ ?restb28
          case hyb28 => (intro w; go_simp; try with_reducible rfl)
          refine wpAnyIn_ready (rs := [13]) (by kernel_rfl) (by simp) ?_
          refine AllReadyIn.cons rfl (fun K hK => ?_) AllReadyIn.nil
          go_simp
          refine hK _ _ ?_
          clear hK K
          refine wpAnyIn_done (by kernel_rfl) ?_ _
          exact HK3.out
        refine AllReadyIn.cons rfl (fun K hK => ?_) AllReadyIn.nil
        go_simp
        refine hK _ _ ?_
        clear hK K
        refine wpAnyIn_ready (rs := [4]) (by kernel_rfl) (by simp) ?_
        refine AllReadyIn.cons rfl (fun K hK => ?_) AllReadyIn.nil
        go_simp
        refine hK _ _ ?_
        clear hK K
        refine wpAnyIn_ready (rs := [10]) (by kernel_rfl) (by simp) ?_
        refine AllReadyIn.cons rfl (fun K hK => ?_) AllReadyIn.nil
        gi_wp2_with (refine ⟨trivial, ?_⟩; gi_at_call 76; refine (callsIn_wide.2 HI'.out).mono ?_; rintro e w2 ⟨g2, c2, rfl, hc2, hb2, hg2, k1, k2, hb1⟩; have HK3 : Hid (K3 { tmps := #[.pointer (some ⟨p, 1, none⟩), .int .i64 who, .int .i64 ticks, undef, undef, .pointer (some ⟨t, 0, none⟩), .pointer (some ⟨b6, 0, none⟩), .pointer (some ⟨b7, 0, none⟩), undef, undef, .int .i64 ticks, .pointer (some ⟨p, 1, none⟩), .func (.func 80) #[] #[.pointer (some ⟨WS, 0, none⟩)], undef, undef, undef, undef, undef, undef, undef, undef, undef, undef, .pointer (some ⟨p, 1, none⟩), .pointer (some ⟨p, 1, none⟩), .pointer (some ⟨p, 1, none⟩), .pointer (some ⟨p, 1, none⟩), .slice sp m cap, .int .i64 (k : Int), .int .i64 who, .int .i64 z, .agg #[.int .i64 who, .int .i64 z], .slice (some ⟨W1.heap.size, 0, none⟩) 1 1, .slice (some ⟨g2, 0, none⟩) (m + 1) c2, .pointer (some ⟨p, 1, none⟩), .pointer (some ⟨p, 1, none⟩), undef, undef, undef, undef, undef, undef], defers := [{ target := .collected D, args := #[] }] } (w2.setCell ⟨p, 1, none⟩ (.slice (some ⟨g2, 0, none⟩) (m + 1) c2))) := key3 g2 c2 w2 hc2 hb2 hg2 hb1; clear hc2 hb2 hg2 hb1)
        refine wpAnyIn_take (i := 11) (v := ?vb29) rfl rfl (by kernel_rfl) (by kernel_rfl) (by kernel_rfl) (fun _ _ _ h => h) ⟨Or.inl ⟨by rfl, ?hyb29⟩, fun _ => rfl⟩ ?restb29
        case hyb29 => (intro w; go_simp; try with_reducible rfl)
        refine wpAnyIn_take (i := 12) (v := ?vb30) rfl rfl (by kernel_rfl) (by kernel_rfl) (by kernel_rfl) (fun _ _ _ h => h) ⟨Or.inl ⟨by rfl, ?hyb30⟩, fun _ => rfl⟩ ?restb30
        case hyb30 => (intro w; go_simp; try with_reducible rfl)
        refine wpAnyIn_ready (rs := [13]) (by kernel_rfl) (by simp) ?_
        refine AllReadyIn.cons rfl (fun K hK => ?_) AllReadyIn.nil
        go_simp
        refine hK _ _ ?_
        clear hK K
        refine wpAnyIn_done (by kernel_rfl) ?_ _
        exact HK3.out
      refine AllReadyIn.cons rfl (fun K hK => ?_) AllReadyIn.nil
      go_simp
      refine hK _ _ ?_
      clear hK K
      refine wpAnyIn_ready (rs := [4, 5]) (by kernel_rfl) (by simp) ?_
      refine AllReadyIn.cons rfl (fun K hK => ?_) ?_
      · go_simp
        refine hK _ _ ?_
        clear hK K
        refine wpAnyIn_ready (rs := [5]) (by kernel_rfl) (by simp) ?_
        refine AllReadyIn.cons rfl (fun K hK => ?_) AllReadyIn.nil
        go_simp
        refine hK _ _ ?_
        clear hK K
        refine wpAnyIn_ready (rs := [10]) (by kernel_rfl) (by simp) ?_
        refine AllReadyIn.cons rfl (fun K hK => ?_) AllReadyIn.nil
        gi_wp2_with (refine ⟨trivial, ?_⟩; gi_at_call 76; refine (callsIn_wide.2 HI'.out).mono ?_; rintro e w2 ⟨g2, c2, rfl, hc2, hb2, hg2, k1, k2, hb1⟩; have HK3 : Hid (K3 { tmps := #[.pointer (some ⟨p, 1, none⟩), .int .i64 who, .int .i64 ticks, undef, undef, .pointer (some ⟨t, 0, none⟩), .pointer (some ⟨b6, 0, none⟩), .pointer (some ⟨b7, 0, none⟩), undef, undef, .int .i64 ticks, .pointer (some ⟨p, 1, none⟩), .func (.func 80) #[] #[.pointer (some ⟨WS, 0, none⟩)], undef, undef, undef, undef, undef, undef, undef, undef, undef, undef, .pointer (some ⟨p, 1, none⟩), .pointer (some ⟨p, 1, none⟩), .pointer (some ⟨p, 1, none⟩), .pointer (some ⟨p, 1, none⟩), .slice sp m cap, .int .i64 (k : Int), .int .i64 who, .int .i64 z, .agg #[.int .i64 who, .int .i64 z], .slice (some ⟨W1.heap.size, 0, none⟩) 1 1, .slice (some ⟨g2, 0, none⟩) (m + 1) c2, .pointer (some ⟨p, 1, none⟩), .pointer (some ⟨p, 1, none⟩), undef, undef, undef, undef, undef, undef], defers := [{ target := .collected D, args := #[] }] } (w2.setCell ⟨p, 1, none⟩ (.slice (some ⟨g2, 0, none⟩) (m + 1) c2))) := key3 g2 c2 w2 hc2 hb2 hg2 hb1; clear hc2 hb2 hg2 hb1)
        refine wpAnyIn_take (i := 11) (v := ?vb31) rfl rfl (by kernel_rfl) (by kernel_rfl) (by kernel_rfl) (fun _ _ _ h => h) ⟨Or.inl ⟨by rfl, ?hyb31⟩, fun _ => rfl⟩ ?restb31
        case hyb31 => (intro w; go_simp; try with_reducible rfl)
        refine wpAnyIn_take (i := 12) (v := ?vb32) rfl rfl (by kernel_rfl) (by kernel_rfl) (by kernel_rfl) (fun _ _ _ h => h) ⟨Or.inl ⟨by rfl, ?hyb32⟩, fun _ => rfl⟩ ?restb32
        case hyb32 => (intro w; go_simp; try with_reducible rfl)
        refine wpAnyIn_ready (rs := [13]) (by kernel_rfl) (by simp) ?_
        refine AllReadyIn.cons rfl (fun K hK => ?_) AllReadyIn.nil
        go_simp
        refine hK _ _ ?_
        clear hK K
        refine wpAnyIn_done (by kernel_rfl) ?_ _
        exact HK3.out
      refine AllReadyIn.cons rfl (fun K hK => ?_) AllReadyIn.nil
      go_simp
      refine hK _ _ ?_
      clear hK K
      refine wpAnyIn_ready (rs := [4]) (by kernel_rfl) (by simp) ?_
      refine AllReadyIn.cons rfl (fun K hK => ?_) AllReadyIn.nil
      go_simp
      refine hK _ _ ?_
      clear hK K
      refine wpAnyIn_ready (rs := [10]) (by kernel_rfl) (by simp) ?_
      refine AllReadyIn.cons rfl (fun K hK => ?_) AllReadyIn.nil
      gi_wp2_with (refine ⟨trivial, ?_⟩; gi_at_call 76; refine (callsIn_wide.2 HI'.out).mono ?_; rintro e w2 ⟨g2, c2, rfl, hc2, hb2, hg2, k1, k2, hb1⟩; have HK3 : Hid (K3 { tmps := #[.pointer (some ⟨p, 1, none⟩), .int .i64 who, .int .i64 ticks, undef, undef, .pointer (some ⟨t, 0, none⟩), .pointer (some ⟨b6, 0, none⟩), .pointer (some ⟨b7, 0, none⟩), undef, undef, .int .i64 ticks, .pointer (some ⟨p, 1, none⟩), .func (.func 80) #[] #[.pointer (some ⟨WS, 0, none⟩)], undef, undef, undef, undef, undef, undef, undef, undef, undef, undef, .pointer (some ⟨p, 1, none⟩), .pointer (some ⟨p, 1, none⟩), .pointer (some ⟨p, 1, none⟩), .pointer (some ⟨p, 1, none⟩), .slice sp m cap, .int .i64 (k : Int), .int .i64 who, .int .i64 z, .agg #[.int .i64 who, .int .i64 z], .slice (some ⟨W1.heap.size, 0, none⟩) 1 1, .slice (some ⟨g2, 0, none⟩) (m + 1) c2, .pointer (some ⟨p, 1, none⟩), .pointer (some ⟨p, 1, none⟩), undef, undef, undef, undef, undef, undef], defers := [{ target := .collected D, args := #[] }] } (w2.setCell ⟨p, 1, none⟩ (.slice (some ⟨g2, 0, none⟩) (m + 1) c2))) := key3 g2 c2 w2 hc2 hb2 hg2 hb1; clear hc2 hb2 hg2 hb1)
      refine wpAnyIn_take (i := 11) (v := ?vb33) rfl rfl (by kernel_rfl) (by kernel_rfl) (by kernel_rfl) (fun _ _ _ h => h) ⟨Or.inl ⟨by rfl, ?hyb33⟩, fun _ => rfl⟩ ?restb33
      case hyb33 => (intro w; go_simp; try with_reducible rfl)
      refine wpAnyIn_take (i := 12) (v := ?vb34) rfl rfl (by kernel_rfl) (by kernel_rfl) (by kernel_rfl) (fun _ _ _ h => h) ⟨Or.inl ⟨by rfl, ?hyb34⟩, fun _ => rfl⟩ ?restb34
      case hyb34 => (intro w; go_simp; try with_reducible rfl)
      refine wpAnyIn_ready (rs := [13]) (by kernel_rfl) (by simp) ?_
      refine AllReadyIn.cons rfl (fun K hK => ?_) AllReadyIn.nil
      go_simp
      refine hK _ _ ?_
      clear hK K
      refine wpAnyIn_done (by kernel_rfl) ?_ _
      exact HK3.out
    have hsz : (W.alloc (Obj.cells #[.pointer (some ⟨p, 1, none⟩)] 131)).heap.size = WS + 1 := by rw [alloc_size, hWS]
    have hBn : Boxed (W.alloc (Obj.cells #[.pointer (some ⟨p, 1, none⟩)] 131)) WS 131 (.pointer (some ⟨p, 1, none⟩)) := by have := Boxed.new W 131 (.pointer (some ⟨p, 1, none⟩)); rw [hWS] at this; exact this
    have htW : t ≤ W.heap.size := by have := HAB.out.bel.size; have := HT.out; omega
    have HAB2 : Hid (AB w (W.alloc (Obj.cells #[.pointer (some ⟨p, 1, none⟩)] 131)) t b6 b7 ticks 0 ticks) := HAB.out.below htW (alloc_below W _)
    generalize W.alloc (Obj.cells #[.pointer (some ⟨p, 1, none⟩)] 131) = W0 at hsz hBn HAB2 ⊢
    have hlk0 := (HAB2.out.bel.cell (p := ⟨p, 1, none⟩) hpl).trans HLK.out
    have hcs0 : ∀ k, k < m → W0.cell? ⟨g, k * 2 + 1, none⟩ = some (.int .i64 (bd k)) := fun k hk => (HAB2.out.bel.cell (p := ⟨g, k * 2 + 1, none⟩) hgl).trans (hcs'.out k hk)
    have h6 : b6 < WS := by have := HAB.out.x6.lt; omega
    have h7 : b7 < WS := by have := HAB.out.x7.lt; omega
    have h66 := HAB.out.l6
    have h77 := HAB.out.l7
    clear HAB
    refine wpIn_rangeFunc_ownG rfl (by omega) (gf := 80) (lb := #[.pointer (some ⟨WS, 0, none⟩)]) rfl trivial (enters_of Tryd.func80 (by kernel_rfl) rfl)
      (seq_stops _ (by omega) WS p g m cap sp hsp (by omega) F bd hF0.out HF.out W0 (by omega) (by omega) (fun _ => by omega) hBn.cell hlk0 hcs0) Kp.trans (kp_b (by simp; omega)) (Below.refl _ _) (fun _ => rfl)
      (fun pre W => AB w W t b6 b7 ticks (lastP pre : Nat) (ticks - F (lastP pre)) ∧ (∀ x ∈ pre, F (x.val + 1) ≤ ticks))
      (fun c pre W => c = .exit 0 ∧ ∃ pre' x, pre = pre' ++ [x] ∧ ticks < F (x.val + 1) ∧ AB w W t b6 b7 ticks (lastP pre' : Nat) (ticks - F (lastP pre')) ∧ (∀ x ∈ pre', F (x.val + 1) ≤ ticks))
      (ownFrom_of fun s W W' hs hk hB => ⟨hs.1.keep hk (hB t (by omega) (by have := hs.1.bel.size; have := HT.out; omega)), hs.2⟩)
      (fun c => ownFrom_of fun s W W' hs hk hB => by
        obtain ⟨hc, pre', x, hp, hf, hab, hle⟩ := hs
        exact ⟨hc, pre', x, hp, hf, hab.keep hk (hB t (by omega) (by have := hab.bel.size; have := HT.out; omega)), hle⟩)
      ⟨by have := HAB2.out; rw [show lastP ([] : List (Fin m)) = 0 from rfl, hF0.out, Int.sub_zero]; exact this, by simp⟩
      (fun x => { tmps := #[.pointer (some ⟨p, 1, none⟩), .int .i64 who, .int .i64 ticks, undef, undef, .pointer (some ⟨t, 0, none⟩), .pointer (some ⟨b6, 0, none⟩), .pointer (some ⟨b7, 0, none⟩), .int .i64 ((x.val : Nat) : Int), .int .i64 (F (x.val + 1)), .int .i64 ticks, .pointer (some ⟨p, 1, none⟩), .func (.func 80) #[] #[.pointer (some ⟨WS, 0, none⟩)], .int .i64 ((x.val : Nat) : Int), .int .i64 (F (x.val + 1)), undef, undef, undef, undef, undef, undef, undef, undef, undef, undef, undef, undef, undef, undef, undef, undef, undef, undef, undef, undef, undef, undef, undef, undef, undef, undef, undef], defers := [] }) ?assign ?body ?done ?stop
    case assign =>
      intro l x W K hK
      gi_wp2
      exact hK
    case body =>
      rintro l pre x W1 ⟨hab, hle⟩ hlt
      have c5 := hab.x5.cell
      have c6 := hab.x6.cell
      have c7 := hab.x7.cell
      have f6 := hab.x6.frozen
      have f7 := hab.x7.frozen
      have hn := hab.n67
      have hn' := Ne.symm hn
      have hn5 := hab.n56
      have hn5' := Ne.symm hn5
      have hn6 := hab.n57
      have hn6' := Ne.symm hn6
      have HA1 : Hid (AB w W1 t b6 b7 ticks (lastP pre : Nat) (ticks - F (lastP pre))) := hab
      have HLE : Hid (∀ x ∈ pre, F (x.val + 1) ≤ ticks) := hle
      have hxm : x.val < m := x.isLt
      have hfx := HFB.out (x.val + 1) (by omega)
      have hw1 : IntKind.i64.wrap (((x.val : Nat) : Int) + 1) = ((x.val : Nat) : Int) + 1 := by rw [IntKind.wrap_i64]; omega
      have hw2 : IntKind.i64.wrap (ticks - F (x.val + 1)) = ticks - F (x.val + 1) := by rw [IntKind.wrap_i64]; omega
      clear hab hle hlt hlk0 hcs0 key2 hK2 hsp hBn hsz
      by_cases hgt : ticks < F (x.val + 1)
      · gi_wp2
        exact ⟨KeepsFrom.refl _ _, rfl, pre, x, rfl, hgt, HA1.out, HLE.out⟩
      · have hgt' : F (x.val + 1) ≤ ticks := by omega
        gi_wp2
        refine region_round (by intro i o ho c; rcases i with _ | _ | _ | _ | _ | _ | _ | i <;> (try (cases ho; exact (fun h => by cases h))); simp at ho) hmx ?_
        have FIN : ownPostG W0.heap.size (Kp [WS, p, g]) (fun pre W => AB w W t b6 b7 ticks (lastP pre : Nat) (ticks - F (lastP pre)) ∧ (∀ x ∈ pre, F (x.val + 1) ≤ ticks))
            (fun c pre W => c = .exit 0 ∧ ∃ pre' x, pre = pre' ++ [x] ∧ ticks < F (x.val + 1) ∧ AB w W t b6 b7 ticks (lastP pre' : Nat) (ticks - F (lastP pre')) ∧ (∀ x ∈ pre', F (x.val + 1) ≤ ticks)) (pre ++ [x]) W1 Exit.normal { tmps := #[], defers := [] } ((W1.setCell ⟨b6, 0, none⟩ (.int .i64 (((x.val : Nat) : Int) + 1))).setCell ⟨b7, 0, none⟩ (.int .i64 (ticks - F (x.val + 1)))).drew := by
          refine ⟨((((KeepsOthers.setCell _ _ _).trans (KeepsOthers.setCell _ _ _)).trans (KeepsOthers.drew _)).from _), fun k hk => ?_, ?_, fun y hy => ?_⟩
          · have hk' : k ≠ b6 ∧ k ≠ b7 := by
              simp only [List.mem_cons, List.not_mem_nil, or_false] at hk
              rcases hk with rfl | rfl | rfl <;> omega
            show ((W1.setCell ⟨b6, 0, none⟩ (.int .i64 (((x.val : Nat) : Int) + 1))).setCell ⟨b7, 0, none⟩ (.int .i64 (ticks - F (x.val + 1)))).heap[k]? = _
            rw [Below.heap_setCell _ _ _ _ hk'.2, Below.heap_setCell _ _ _ _ hk'.1]
          · rw [lastP_snoc]
            have := HA1.out.put ((x.val : Nat) + 1) (ticks - F (x.val + 1))
            exact this.keep (fun k cs ty f hk => hk) ((Below.refl _ _).drew)
          · rcases List.mem_append.1 hy with hy | hy
            · exact HLE.out y hy
            · have : y = x := by simpa using hy
              rw [this]; exact hgt'
        refine wpAnyIn_take (i := 0) (v := ?va1) rfl rfl (by kernel_rfl) (by kernel_rfl) (by kernel_rfl) (fun _ _ _ h => h) ⟨Or.inl ⟨by rfl, ?hya1⟩, fun _ => rfl⟩ ?resta1
        case hya1 => (intro w; go_simp; try with_reducible rfl)
        refine wpAnyIn_take (i := 1) (v := ?va2) rfl rfl (by kernel_rfl) (by kernel_rfl) (by kernel_rfl) (fun _ _ _ h => h) ⟨Or.inl ⟨by rfl, ?hya2⟩, fun _ => rfl⟩ ?resta2
        case hya2 => (intro w; go_simp; try with_reducible rfl)
        refine wpAnyIn_take (i := 3) (v := ?va3) rfl rfl (by kernel_rfl) (by kernel_rfl) (by kernel_rfl) (fun _ _ _ h => h) ⟨Or.inl ⟨by rfl, ?hya3⟩, fun _ => rfl⟩ ?resta3
        case hya3 => (intro w; go_simp; try with_reducible rfl)
        refine wpAnyIn_ready (rs := [2, 5]) (by kernel_rfl) (by simp) ?_
        refine AllReadyIn.cons rfl (fun K hK => ?_) ?_
        · go_simp
          refine hK _ _ ?_
          clear hK K
          refine wpAnyIn_take (i := 4) (v := ?va4) rfl rfl (by kernel_rfl) (by kernel_rfl) (by kernel_rfl) (fun _ _ _ h => h) ⟨Or.inl ⟨by rfl, ?hya4⟩, fun _ => rfl⟩ ?resta4
          case hya4 => (intro w; go_simp; try with_reducible rfl)
          refine wpAnyIn_ready (rs := [5]) (by kernel_rfl) (by simp) ?_
          refine AllReadyIn.cons rfl (fun K hK => ?_) AllReadyIn.nil
          go_simp
          refine hK _ _ ?_
          clear hK K
          refine wpAnyIn_ready (rs := [6]) (by kernel_rfl) (by simp) ?_
          refine AllReadyIn.cons rfl (fun K hK => ?_) AllReadyIn.nil
          go_simp
          refine hK _ _ ?_
          clear hK K
          refine wpAnyIn_done (by kernel_rfl) ?_ _
          exact FIN
        refine AllReadyIn.cons rfl (fun K hK => ?_) AllReadyIn.nil
        go_simp
        refine hK _ _ ?_
        clear hK K
        refine wpAnyIn_ready (rs := [2]) (by kernel_rfl) (by simp) ?_
        refine AllReadyIn.cons rfl (fun K hK => ?_) AllReadyIn.nil
        go_simp
        refine hK _ _ ?_
        clear hK K
        refine wpAnyIn_take (i := 4) (v := ?va5) rfl rfl (by kernel_rfl) (by kernel_rfl) (by kernel_rfl) (fun _ _ _ h => h) ⟨Or.inl ⟨by rfl, ?hya5⟩, fun _ => rfl⟩ ?resta5
        case hya5 => (intro w; go_simp; try with_reducible rfl)
        refine wpAnyIn_ready (rs := [6]) (by kernel_rfl) (by simp) ?_
        refine AllReadyIn.cons rfl (fun K hK => ?_) AllReadyIn.nil
        go_simp
        refine hK _ _ ?_
        clear hK K
        refine wpAnyIn_done (by kernel_rfl) ?_ _
        exact FIN
    case done =>
      rintro D ys W1 hD rfl ⟨hab, hle⟩ hK
      have e : lastP (List.finRange m) = m := by
        have := lastP_take (m := m) (k := m) (Nat.le_refl _)
        rwa [List.take_of_length_le (by simp)] at this
      rw [e] at hab
      exact key2 m D W1 (Nat.le_refl _) (fun i hi => hle ⟨i, hi⟩ (List.mem_finRange _)) (fun h => absurd h (Nat.lt_irrefl _)) hab hK (by omega)
    case stop =>
      rintro D c pre W1 hD hpre ⟨rfl, pre', x, rfl, hx, hab, hle⟩ hK
      have e := pre_snoc hpre
      have hxm : x.val < m := x.isLt
      have hle' : ∀ i, i < x.val → F (i + 1) ≤ ticks := fun i hi => hle ⟨i, by omega⟩ (by rw [e]; exact (mem_take_fin _).2 hi)
      rw [e, lastP_take (by omega)] at hab
      have fin := key2 x.val D W1 (by omega) hle' (fun _ => hx) hab hK (by omega)
      clear hlk0 hcs0 hsp hBn hsz key2 hab hle hle' hK hK2
      gi_wp2
      exact fin
  clear hlk hcs' HF hF0 hsp
  gi_region_with_o (fail)
  all_goals first | exact key _ _ _ (AB.of HT.out ticks).1 | exact key _ _ _ (AB.of HT.out ticks).2
end Go.Proofs.YtciafjmljmeimaaDoor
