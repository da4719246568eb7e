/- A chain: a tick goes by. -/
import Derived.Test.YtciafjmljmeimaaDoorDAll
namespace Go.Proofs.YtciafjmljmeimaaDoor
open Go Go.RowKit Go.Shelf
attribute [local go_sem] Oper.semAt_some
set_option maxRecDepth 100000
set_option linter.unusedVariables false
set_option linter.unusedSimpArgs false
/-- append to a row of one's own, as one step of a region that draws its order -/
theorem step_append_in {n : Nat} {P : Program} {ops : Array Oper} {o : Oper} {a : Act} {w : World} {K : Act → World → Prop} {Q : Exit → Act → World → Prop} {X : Prop} (hgd : o.guard = none) (s x : Operand) (t : TypeId)
    (ho : o.op = .call { callee := .builtin .append, args := #[s, x], argTypes := #[t, t] })
    (base : Nat) (e : TypeId) (i : TypeInfo) (z : Value) (size bytes : Nat) (ht : P.underlying t = some (.slice e)) (hi : P.info? e = some i) (hz : i.zero = some z)
    (hsize : i.size = size) (hby : i.bytes = bytes) (hzs : z.cells.size = size) (hsz : 0 < size)
    (v : Value) (k : Nat) (xs : List Value) (hs : a.eval s = v) (hown : w.ownsRow base e size v k xs)
    (ad : Addr) (m c : Nat) (news : List Value) (hx : a.eval x = .slice (some ad) m c) (hl : news.length = m * size) (hnews : ∀ j u, news[j]? = some u → w.cell? (ad.add j) = some u) (h1 : ∀ u ∈ news, u.oneCell' = true)
    (h63 : k + m ≤ maxLen) (hbytes : (k + m) * bytes ≤ 140737488355328) (hbase : base ≤ w.heap.size)
    (h : ∀ v' w', w'.ownsRow base e size v' (k + m) (xs ++ news) → w.grownBy w' v.ownBlock → (v' = .slice none 0 0 ↔ v = .slice none 0 0 ∧ m = 0) → K (a.put o.dst v') w') :
    if Region.wanted o (yielded ops a.tmps) = true then Oper.wpIn Fence.wide n P o a w K Q else X := by
  have hw : Region.wanted o (yielded ops a.tmps) = true := by simp [Region.wanted, hgd]
  rw [if_pos hw]
  obtain ⟨v', w', hr, h2, h3, h4⟩ := run_append_own (P := P) w base t o.type e i z size bytes ht hi hz hsize hby hzs hsz v k xs hown ad m c news hl hnews h1 h63 hbytes hbase
  unfold Oper.wpIn
  refine ⟨?_, ?_⟩
  · simp [Oper.about, ho, resolve, Target.leads, Sem.run_pure]
  · rw [Oper.semAt_plain Fence.wide _ _ (by rw [ho]; intro c hc'; cases hc')]
    simp [execOp, ho, resolve, invoke, builtin, hs, hx, hr, Result.andThen]
    exact h v' w' h2 h3 h4
theorem sh_dec (xs : List (Int × Int)) : shAt 0 (-1) (dl 0 xs) = dl 0 (xs.map dec) := by
  rw [dl_dec, dl_sh xs 0 (0 + 1)]
  simp [shAt]
theorem dec_getD {xs : List (Int × Int)} {k : Nat} (h : k < xs.length) : (xs.map dec).getD k (0, 0) = dec (xs.getD k (0, 0)) := by
  rw [List.getD_eq_getElem?_getD, List.getD_eq_getElem?_getD, List.getElem?_map, List.getElem?_eq_getElem h]
  rfl
/-- what Delete of the first ones, and the store behind it, make of a chain -/
theorem delete_next {B : Nat} {W : World} {p : Nat} {v : Value} {ds : List (Int × Int)} (h : Ch B W p v ds) {k : Nat} (hk : k ≤ ds.length) :
    Calls Tryd.prog 78 #[v, .int .i64 0, .int .i64 (k : Int)] W.drew fun e w' => ∃ s2 c2, e = .returned (.slice s2 (ds.length - k) c2) ∧ Ch B (w'.setCell ⟨p, 1, none⟩ (.slice s2 (ds.length - k) c2)) p (.slice s2 (ds.length - k) c2) (ds.drop k) ∧
      Buts (p :: v.ownBlock.toList) W (w'.setCell ⟨p, 1, none⟩ (.slice s2 (ds.length - k) c2)) ∧ (Value.slice s2 (ds.length - k) c2).ownBlock = v.ownBlock ∧ w'.cell? ⟨p, 1, none⟩ = some v ∧ w'.frozen? ⟨p, 1, none⟩ = false ∧ Buts v.ownBlock.toList W w' := by
  have hd : Own B W.drew v ds := h.own
  have := delete_any (i := 0) (j := k) hd (Nat.zero_le _) hk
  refine Calls.mono (this : Calls Tryd.prog 78 #[v, .int .i64 0, .int .i64 (k : Int)] W.drew _) ?_
  rintro e w' ⟨sp, cap, rfl, ho, hb, hob⟩
  rw [Nat.sub_zero] at ho hob ⊢
  rw [List.take_zero, List.nil_append] at ho
  have hb' : Buts v.ownBlock.toList W w' := ⟨hb.os, hb.tape, hb.output, hb.size, hb.block⟩
  obtain ⟨h1, h2⟩ := h.lay ho hb' (by have := h.len; simp; omega) (fun b hbk => Or.inl (hob ▸ hbk))
  have e : w'.heap[p]? = W.heap[p]? := hb'.block p (at_lt h.head) (fun hm => h.ne (by simpa using hm) rfl)
  exact ⟨sp, cap, rfl, h1, h2, hob, by rw [World.cell?_of_block e]; exact h.lnk, by rw [World.frozen?_of_block e]; exact h.fp 1, hb'⟩
theorem Nx.putObjT {B : Nat} {w w1 : World} {p : Nat} {v : Value} {es : List (Int × Int)} {D : Nat} (h : Nx B w w1 p v es) (hd : w1.heap[D]? = some (.deferred (some []))) (hD : w.heap.size ≤ D) : Nx B w (w1.putObj D (.deferred none)) p v es := by
  obtain ⟨v', hc, hb, hv⟩ := h
  have hbd : Buts [D] w1 (w1.putObj D (.deferred none)) := ⟨rfl, rfl, rfl, by simp, fun k _ hk => World.putObj_heap_other (by simpa using hk)⟩
  refine ⟨v', hc.buts hbd (fun hm => ?_) (fun g hg hm => ?_), ⟨hb.os, hb.tape, hb.output, Nat.le_trans hb.size (by simp), fun k hk hkl => ?_⟩, hv⟩
  · have : p = D := by simpa using hm
    rw [← this, hc.head] at hd; cases hd
  · obtain ⟨cur, hc2⟩ := hc.own.kind hg
    have : g = D := by simpa using hm
    rw [← this, hc2] at hd; cases hd
  · rw [World.putObj_heap_other (by omega)]
    exact hb.block k hk hkl
set_option maxHeartbeats 4000000 in
theorem tick_any {B : Nat} {w : World} {p : Nat} {v : Value} {xs : List (Int × Int)} (h : Ch B w p v (dl 0 xs)) (hu : Up xs) (hlo : ∀ x ∈ xs, 1 ≤ x.2) (hhi : ∀ x ∈ xs, x.2 ≤ 1073741824) (hB : B ≤ w.heap.size) :
    Calls Tryd.prog 57 #[.pointer (some ⟨p, 1, none⟩)] w fun e w' => ∃ u, e = .returned u ∧ w'.ownsRow w.heap.size 3 1 u ((xs.filter (fun y => decide (y.2 = 1))).map Prod.fst).length (num ((xs.filter (fun y => decide (y.2 = 1))).map Prod.fst)) ∧ (u = .slice none 0 0 ↔ ((xs.filter (fun y => decide (y.2 = 1))).map Prod.fst) = []) ∧ Nx B w w' p v (dl 0 ((xs.filter (fun y => decide (y.2 ≠ 1))).map dec)) := by
  have hl : xs.length ≤ 1000 := by have := h.len; rw [dl_len] at this; exact this
  have HR : Hid (∀ k : Nat, k ≤ xs.length → (∀ i, i < k → lf (xs.map dec) (i + 1) ≤ 0) → (k < xs.length → 0 < lf (xs.map dec) (k + 1)) →
      (xs.filter (fun y => decide (y.2 = 1))).map Prod.fst = ((List.finRange xs.length).take k).map (fun x => ((xs.map dec).getD x.val (0, 0)).1) ∧ (dl 0 (xs.map dec)).drop k = dl 0 ((xs.filter (fun y => decide (y.2 ≠ 1))).map dec)) := by
    intro k hk h1 h2
    have hml : (xs.map dec).length = xs.length := by simp
    have h1' : ∀ i, i < k → (xs.getD i (0, 0)).2 ≤ 1 := fun i hi => by
      have := h1 i hi
      rw [lf_succ (by omega), dec_getD (by omega)] at this
      simp only [dec] at this
      omega
    have h2' : k < xs.length → 1 < (xs.getD k (0, 0)).2 := fun hk2 => by
      have := h2 hk2
      rw [lf_succ (by omega), dec_getD (by omega)] at this
      simp only [dec] at this
      omega
    obtain ⟨e1, e2⟩ := cut_tick hu hlo hk h1' h2'
    rw [e1, e2, List.map_drop]
    refine ⟨?_, dl_drop (fun x hx => ?_)⟩
    · apply List.ext_getElem?
      intro j
      by_cases hj : j < k
      · rw [List.getElem?_map, List.getElem?_take_of_lt hj, List.getElem?_eq_getElem (by omega), List.getElem?_map, List.getElem?_take_of_lt hj, List.getElem?_eq_getElem (by simp; omega)]
        simp only [Option.map_some, List.getElem_finRange]
        congr 1
        show _ = ((xs.map dec).getD j (0, 0)).1
        rw [dec_getD (by omega), List.getD_eq_getElem?_getD, List.getElem?_eq_getElem (by omega)]
        rfl
      · rw [List.getElem?_eq_none (by simp; omega), List.getElem?_eq_none (by simp; omega)]
    · rw [← List.map_take] at hx
      obtain ⟨y, hy, rfl⟩ := List.mem_map.1 hx
      obtain ⟨i, hi, e⟩ := List.getElem_of_mem hy
      rw [List.getElem_take] at e
      have hik : i < k := by simp at hi; omega
      have h3 := h1' i hik
      have h4 := hlo y (List.mem_of_mem_take hy)
      rw [List.getD_eq_getElem?_getD, List.getElem?_eq_getElem (by omega), Option.getD_some, e] at h3
      simp only [dec]
      omega
  have hbd : Bnd (xs.map dec) := fun x hx => by
    obtain ⟨y, hy, rfl⟩ := List.mem_map.1 hx
    have := hlo y hy
    have := hhi y hy
    simp only [dec]
    omega
  obtain ⟨t, ht⟩ : ∃ t, w.heap.size = t := ⟨_, rfl⟩
  have HT : Hid (w.heap.size = t) := ht
  have hwx : 0 < (dl 0 xs).length → IntKind.i64.wrap (((dl 0 xs).getD 0 (0, 0)).2 + -1) = ((dl 0 xs).getD 0 (0, 0)).2 + -1 := by
    intro h0
    rw [dl_len] at h0
    rw [dl_getD h0]
    have e1 : lf xs 1 = (xs.getD 0 (0, 0)).2 := lf_succ h0
    have := hlo _ (getD_mem h0)
    have := hhi _ (getD_mem h0)
    unfold bh
    rw [lf_zero, e1, IntKind.wrap_i64]
    omega
  have HS : Hid (Calls Tryd.prog 77 #[.pointer (some ⟨p, 1, none⟩), .int .i64 0, .int .i64 (-1)] (w.alloc (Obj.cells #[.pointer (some ⟨p, 1, none⟩)] 131)) fun e Wb => e = .returned (.tuple #[]) ∧ Ch B Wb p v (dl 0 (xs.map dec)) ∧ Boxed Wb t 131 (.pointer (some ⟨p, 1, none⟩)) ∧ Buts v.ownBlock.toList w Wb) := by
    have h1 := shift_any (h.below (alloc_below w (Obj.cells #[.pointer (some ⟨p, 1, none⟩)] 131))) 0 (-1) hwx
    refine Calls.mono (h1 : Calls Tryd.prog 77 #[.pointer (some ⟨p, 1, none⟩), .int .i64 0, .int .i64 (-1)] _ _) ?_
    rintro e Wb ⟨rfl, hc, hb⟩
    rw [sh_dec] at hc
    refine ⟨rfl, hc, ?_, (Buts.of (alloc_below w _)).trans hb⟩
    have hbx := Boxed.new w 131 (.pointer (some ⟨p, 1, none⟩))
    rw [ht] at hbx
    refine (hb.block t hbx.lt (fun hm => ?_)).trans hbx
    have := (h.own.lt' (g := t) (by simpa using hm)).2
    omega
  have HH : Hid (Ch B w p v (dl 0 xs)) := h
  clear h hwx hu hlo hhi
  have hmx : Tryd.prog.follows .mixedOrders = true := by kernel_rfl
  obtain ⟨ys, hys⟩ : ∃ ys, xs.map dec = ys := ⟨_, rfl⟩
  have hyl : xs.length = ys.length := by rw [← hys]; simp
  rw [hys] at HR HS hbd
  clear hys
  refine (callsIn_wide (n := 3)).1 ?_
  refine callsIn_of_wp_marks Tryd.func57 rfl trivial ?_ rfl
  simp only [Tryd.ntmps57, List.size_toArray, List.length_cons, List.length_nil, Nat.reduceAdd, Nat.reduceSub, Array.replicate_succ, Array.replicate_zero, List.push_toArray, List.append_toArray, List.nil_append, List.cons_append]
  gi_wp2_with (first
    | (refine ⟨trivial, ?_⟩; gi_at_call 77; refine (callsIn_wide.2 HS.out).mono ?_; rintro e Wb ⟨rfl, hc, hbx, hb⟩; have HC : Hid (Ch B Wb p v (dl 0 ys)) := hc; have HBX : Hid (Boxed Wb t 131 (.pointer (some ⟨p, 1, none⟩))) := hbx; have HBW : Hid (Buts v.ownBlock.toList w Wb) := hb; have cx := hbx.cell; have cxa : ∀ o : Obj, (Wb.alloc o).cell? ⟨t, 0, none⟩ = some (.pointer (some ⟨p, 1, none⟩)) := (fun o => ((alloc_below Wb o).cell (p := ⟨t, 0, none⟩) hbx.lt).trans hbx.cell); clear hc hbx hb)
    | (refine ⟨trivial, ?_⟩; gi_at_call 75; refine (callsIn_wide.2 (lefts_any p _)).mono ?_; rintro e w' ⟨rfl, rfl⟩))
  rename_i K2 hK2
  clear HS
  obtain ⟨q, hq⟩ : ∃ q, Wb.heap.size = q := ⟨_, rfl⟩
  have HQ : Hid (Wb.heap.size = q) := hq
  obtain ⟨sp, g, cap, hv, hsp, hgp, hgl, hcs⟩ := HC.out.seq
  have hpl := at_lt HC.out.head
  have hlk := HC.out.lnk
  rw [hv] at hlk
  have HV : Hid (v = .slice sp ys.length cap) := hv
  have HF : Hid (∀ k, k < ys.length → IntKind.i64.wrap (lf ys k + bh ys k) = lf ys (k + 1)) := fun k hk => lf_wrap hbd hk
  have HFB : Hid (∀ k, k ≤ ys.length → 0 ≤ lf ys k ∧ lf ys k ≤ 1073741824) := fun k hk => lf_bnd hbd hk
  have htq : t < q := by have := HBX.out.lt; omega
  rw [hq] at hgl hpl
  obtain ⟨m, hm⟩ : ∃ m, ys.length = m := ⟨_, rfl⟩
  have HM : Hid (ys.length = m) := hm
  rw [hyl] at HR hl
  rw [hm] at hlk hcs HF HFB hsp hl HV HR
  obtain ⟨f, hf⟩ : ∃ f : Fin m → Int, f = fun k => (ys.getD k.val (0, 0)).1 := ⟨_, rfl⟩
  have HFF : Hid (f = fun k => (ys.getD k.val (0, 0)).1) := hf
  have HCS1 : Hid (∀ x : Fin m, Wb.cell? ⟨g, x.val * 2, none⟩ = some (.int .i64 (f x))) := fun x => by rw [hf]; exact (hcs x.val x.isLt).1
  have HCS2 : Hid (∀ k, k < m → Wb.cell? ⟨g, k * 2 + 1, none⟩ = some (.int .i64 (bh ys k))) := fun k hk => (hcs k hk).2
  rw [← hf] at HR
  obtain ⟨F, hFe⟩ : ∃ F : Nat → Int, F = lf ys := ⟨_, rfl⟩
  have hF0 : Hid (F 0 = 0) := by show _ = _; rw [hFe]; exact lf_zero ys
  rw [← hFe] at HF HFB HR
  have HLK : Hid (Wb.cell? ⟨p, 1, none⟩ = some (.slice sp m cap)) := hlk
  clear hcs hf hFe hm hbd hyl hlk hv hgp cx cxa
  generalize bh ys = bd at HF HCS2
  obtain ⟨WS, hWS⟩ : ∃ WS, q + 1 = WS := ⟨_, rfl⟩
  have b0 := (Boxed.new Wb 43 (.slice none 0 0)).alloc (Obj.cells #[.pointer (some ⟨p, 1, none⟩)] 131)
  have b1 := Boxed.new (Wb.alloc (Obj.cells #[.slice none 0 0] 43)) 131 (.pointer (some ⟨p, 1, none⟩))
  have hsz : ((Wb.alloc (Obj.cells #[.slice none 0 0] 43)).alloc (Obj.cells #[.pointer (some ⟨p, 1, none⟩)] 131)).heap.size = WS + 1 := by rw [alloc_size, alloc_size, hq, hWS]
  rw [alloc_size, hq, hWS] at b1
  rw [hq] at b0
  have hB0 : Below q Wb ((Wb.alloc (Obj.cells #[.slice none 0 0] 43)).alloc (Obj.cells #[.pointer (some ⟨p, 1, none⟩)] 131)) := ((Below.refl _ Wb).alloc (by omega) _).alloc (by rw [alloc_size]; omega) _
  try rw [hq]
  try rw [hWS]
  generalize (Wb.alloc (Obj.cells #[.slice none 0 0] 43)).alloc (Obj.cells #[.pointer (some ⟨p, 1, none⟩)] 131) = W0 at *
  have hlk0 := (hB0.cell (p := ⟨p, 1, none⟩) hpl).trans HLK.out
  have hcs0 : ∀ k, k < m → W0.cell? ⟨g, k * 2 + 1, none⟩ = some (.int .i64 (bd k)) := fun k hk => (hB0.cell (p := ⟨g, k * 2 + 1, none⟩) hgl).trans (HCS2.out k hk)
  have key2 : ∀ (k D : Nat) (W : World), k ≤ m → (∀ i, i < k → F (i + 1) ≤ 0) → (k < m → 0 < F (k + 1)) → (∃ u, Boxed W q 43 u ∧ W.ownsRow q 3 1 u k (num (((List.finRange m).take k).map f)) ∧ (u = .slice none 0 0 ↔ k = 0)) → Below q Wb W → W.heap[D]? = some (.deferred (some [])) → q ≤ D → K2 { tmps := #[.pointer (some ⟨p, 1, none⟩), .pointer (some ⟨t, 0, none⟩), .slice none 0 0, .pointer (some ⟨q, 0, none⟩), undef, undef, .pointer (some ⟨p, 1, none⟩), .tuple #[], .pointer (some ⟨p, 1, none⟩), .func (.func 80) #[] #[.pointer (some ⟨WS, 0, none⟩)], undef, undef, undef, undef, undef, undef, undef, undef, undef, undef, undef, undef, undef, undef, undef, undef, undef, undef, undef, undef, undef, undef, undef, undef, undef, undef], defers := [{ target := .collected D, args := #[] }] } W := by
    rintro k D W1 hkm hlow hhigh ⟨u, hbu, hrow, hnil⟩ hB1 hdef hD
    refine hK2 _ _ ?_
    have hch : Ch B W1 p v (dl 0 ys) := HC.out.below (by rw [HQ.out]; exact hB1)
    have hdl := dl_len ys 0
    have HI := delete_next hch (show k ≤ (dl 0 ys).length by rw [hdl, HM.out]; exact hkm)
    rw [hdl, HM.out, HV.out] at HI
    obtain ⟨us, uc, hu0⟩ : ∃ us uc, u = .slice us k uc := by
      obtain ⟨a, b, e, _⟩ := own_form hrow
      exact ⟨a, b, e⟩
    subst hu0
    have HI' : Hid (Calls Tryd.prog 78 #[.slice sp m cap, .int .i64 0, .int .i64 (k : Int)] W1.drew fun e w' => ∃ s2 c2, e = .returned (.slice s2 (m - k) c2) ∧ Ch B (w'.setCell ⟨p, 1, none⟩ (.slice s2 (m - k) c2)) p (.slice s2 (m - k) c2) ((dl 0 ys).drop k) ∧
        Buts (p :: (Value.slice sp m cap).ownBlock.toList) W1 (w'.setCell ⟨p, 1, none⟩ (.slice s2 (m - k) c2)) ∧ (Value.slice s2 (m - k) c2).ownBlock = (Value.slice sp m cap).ownBlock ∧ w'.cell? ⟨p, 1, none⟩ = some (.slice sp m cap) ∧ w'.frozen? ⟨p, 1, none⟩ = false ∧ Buts (Value.slice sp m cap).ownBlock.toList W1 w') := HI
    obtain ⟨hz1, hz2⟩ := HR.out k hkm hlow hhigh
    have cq := hbu.cell
    have ct := (hB1.cell (p := ⟨t, 0, none⟩) htq).trans HBX.out.cell
    have cp := (hB1.cell (p := ⟨p, 1, none⟩) hpl).trans HLK.out
    have HROW : Hid (W1.ownsRow q 3 1 (.slice us k uc) k (num (((List.finRange m).take k).map f))) := hrow
    have HBU : Hid (Boxed W1 q 43 (.slice us k uc)) := hbu
    have HB1 : Hid (Below q Wb W1) := hB1
    have HDF : Hid (W1.heap[D]? = some (.deferred (some []))) := hdef
    have HCH : Hid (Ch B W1 p v (dl 0 ys)) := hch
    have HZ1 : Hid ((xs.filter (fun y => decide (y.2 = 1))).map Prod.fst = ((List.finRange m).take k).map f) := hz1
    have HZ2 : Hid ((dl 0 ys).drop k = dl 0 ((xs.filter (fun y => decide (y.2 ≠ 1))).map dec)) := hz2
    have HNIL : Hid (Value.slice us k uc = .slice none 0 0 ↔ k = 0) := hnil
    have HKT : Hid (∀ w2, Buts (Value.slice sp m cap).ownBlock.toList W1 w2 → w2.cell? ⟨t, 0, none⟩ = some (.pointer (some ⟨p, 1, none⟩))) := fun w2 hb2 => by
      have hbt : Boxed W1 t 131 (.pointer (some ⟨p, 1, none⟩)) := (hB1.block t htq).trans HBX.out
      rw [World.cell?_of_block (a := ⟨t, 0, none⟩) (hb2.block t hbt.lt (fun hm => by
        obtain ⟨cur, hc⟩ := hch.own.kind (g := t) (by rw [HV.out]; simpa using hm)
        rw [show W1.heap[t]? = _ from hbt] at hc
        simp at hc))]
      exact hbt.cell
    clear hK2 hlow hhigh hbu hrow hnil hB1 hdef hch hdl HI hz1 hz2 hsp b0 b1 hsz hlk0 hcs0 hB0 HR HF HFB HCS1 HCS2 hF0
    gi_wp2
    rename_i K3 hK3
    have key3 : ∀ (s2 : Option Addr) (c2 : Nat) (w2 : World), Ch B (w2.setCell ⟨p, 1, none⟩ (.slice s2 (m - k) c2)) p (.slice s2 (m - k) c2) ((dl 0 ys).drop k) → Buts (p :: (Value.slice sp m cap).ownBlock.toList) W1 (w2.setCell ⟨p, 1, none⟩ (.slice s2 (m - k) c2)) → (Value.slice s2 (m - k) c2).ownBlock = (Value.slice sp m cap).ownBlock → Buts (Value.slice sp m cap).ownBlock.toList W1 w2 → K3 { tmps := #[.pointer (some ⟨p, 1, none⟩), .pointer (some ⟨t, 0, none⟩), .slice none 0 0, .pointer (some ⟨q, 0, none⟩), undef, undef, .pointer (some ⟨p, 1, none⟩), .tuple #[], .pointer (some ⟨p, 1, none⟩), .func (.func 80) #[] #[.pointer (some ⟨WS, 0, none⟩)], undef, undef, undef, undef, undef, undef, undef, undef, undef, undef, undef, undef, undef, undef, undef, .pointer (some ⟨p, 1, none⟩), .pointer (some ⟨p, 1, none⟩), .pointer (some ⟨p, 1, none⟩), .pointer (some ⟨p, 1, none⟩), .slice sp m cap, .slice us k uc, .int .i64 (k : Int), .slice s2 (m - k) c2, .pointer (some ⟨p, 1, none⟩), .pointer (some ⟨p, 1, none⟩), undef], defers := [{ target := .collected D, args := #[] }] } (w2.setCell ⟨p, 1, none⟩ (.slice s2 (m - k) c2)) := by
      intro s2 c2 w2 hc2 hb2 hob hb1
      refine hK3 _ _ ?_
      refine wpIn_wide.2 ?_
      rw [← HV.out] at hb2 hob
      have hqp : q ∉ p :: v.ownBlock.toList := by
        intro hm
        rcases List.mem_cons.1 hm with e | e
        · omega
        · obtain ⟨cur, hc⟩ := HCH.out.own.kind (g := q) (by simpa using e)
          have := HBU.out
          unfold Boxed at this
          rw [hc] at this
          simp at this
      have hDp : D ∉ p :: v.ownBlock.toList := by
        intro hm
        rcases List.mem_cons.1 hm with e | e
        · have := HDF.out; rw [e, HCH.out.head] at this; cases this
        · obtain ⟨cur, hc⟩ := HCH.out.own.kind (g := D) (by simpa using e)
          have := HDF.out; rw [hc] at this; cases this
      have hbq : Boxed (w2.setCell ⟨p, 1, none⟩ (.slice s2 (m - k) c2)) q 43 (.slice us k uc) := (hb2.block q HBU.out.lt hqp).trans HBU.out
      have hD2 : (w2.setCell ⟨p, 1, none⟩ (.slice s2 (m - k) c2)).heap[D]? = some (.deferred (some [])) := (hb2.block D (at_lt HDF.out) hDp).trans HDF.out
      have hrow2 : (w2.setCell ⟨p, 1, none⟩ (.slice s2 (m - k) c2)).ownsRow q 3 1 (.slice us k uc) k (num (((List.finRange m).take k).map f)) := owns_buts HROW.out hb2 (fun b hb hm => by
        have hbl := HROW.out.lt b hb
        rcases List.mem_cons.1 hm with e | e
        · omega
        · exact own_ne HROW.out hb HCH.out.own (by simpa using e) (by decide) rfl)
      have hsz1 := HBW.out.size
      have hbw : Buts (p :: v.ownBlock.toList) w (w2.setCell ⟨p, 1, none⟩ (.slice s2 (m - k) c2)) := by
        have h1 := HBW.out
        have h2 := HB1.out
        have h3 := h2.size
        have h4 := HQ.out
        refine ⟨(hb2.os.trans h2.os).trans h1.os, (hb2.tape.trans h2.tape).trans h1.tape, (hb2.output.trans h2.output).trans h1.output, by have := hb2.size; omega, fun b hb hbl => ?_⟩
        rw [hb2.block b (by omega) hbl, h2.block b (by omega)]
        exact h1.block b hb (fun h => hbl (List.mem_cons_of_mem _ h))
      have HNX : Hid (Nx B w (w2.setCell ⟨p, 1, none⟩ (.slice s2 (m - k) c2)) p v (dl 0 ((xs.filter (fun y => decide (y.2 ≠ 1))).map dec))) := ⟨_, by rw [← HZ2.out]; exact hc2, hbw, fun b hb => Or.inl (hob ▸ hb)⟩
      have HRW : Hid ((w2.setCell ⟨p, 1, none⟩ (.slice s2 (m - k) c2)).ownsRow q 3 1 (.slice us k uc) k (num (((List.finRange m).take k).map f))) := hrow2
      have HD2 : Hid ((w2.setCell ⟨p, 1, none⟩ (.slice s2 (m - k) c2)).heap[D]? = some (.deferred (some []))) := hD2
      have cq2 := hbq.cell
      clear hc2 hb2 hob hb1 hqp hDp hbq hD2 hrow2 hbw hK3 cq ct cp
      generalize w2.setCell ⟨p, 1, none⟩ (.slice s2 (m - k) c2) = w22 at *
      go_wp2
      refine ⟨by simp, .inl ⟨_, _, rfl, run_takeDeferred HD2.out, ?_⟩⟩
      have hlk : (((List.finRange m).take k).map f).length = k := by rw [List.length_map, fin_len hkm]
      refine ⟨_, results_tmp rfl _ _ _, .slice us k uc, rfl, ?_, ?_, Nx.putObjT HNX.out HD2.out (by have := HT.out; have := HQ.out; omega)⟩
      · rw [HZ1.out, hlk]
        exact owns_base (ownsRow_putObj HRW.out _ HD2.out rfl) (by have := HT.out; omega)
      · rw [HZ1.out]
        exact HNIL.out.trans ⟨fun h => List.eq_nil_of_length_eq_zero (by rw [hlk]; exact h), fun h => by rw [h] at hlk; simpa using hlk.symm⟩
    clear hK3 HZ1 HZ2 HNIL HCH HDF HB1 HBU HROW HLK HFF HM HV HBX HC HBW HH HT HQ
    refine wpIn_mono (Q := fun e a w => match e with | .normal => K3 a w | _ => False) ?_ (fun e a w h => by cases e <;> first | exact h | exact h.elim)
    refine wpIn_region_any hmx ?_
    try (change wpAnyIn _ _ _ _ _ _ _ _ _ (World.drew _))
    refine wpAnyIn_ready (rs := [0, 1, 5]) (by kernel_rfl) (by simp) ?_
    refine AllReadyIn.cons rfl (fun K hK => ?_) ?_
    · go_simp
      refine hK _ _ ?_
      clear hK K
      refine wpAnyIn_ready (rs := [1, 5]) (by kernel_rfl) (by simp) ?_
      refine AllReadyIn.cons rfl (fun K hK => ?_) ?_
      · go_simp
        refine hK _ _ ?_
        clear hK K
        refine wpAnyIn_take (i := 2) (v := ?vd1) rfl rfl (by kernel_rfl) (by kernel_rfl) (by kernel_rfl) (fun _ _ _ h => h) ⟨Or.inl ⟨by rfl, ?hyd1⟩, fun _ => rfl⟩ ?restd1
        case hyd1 => (intro w; go_simp; try with_reducible rfl)
        refine wpAnyIn_take (i := 3) (v := ?vd2) rfl rfl (by kernel_rfl) (by kernel_rfl) (by kernel_rfl) (fun _ _ _ h => h) ⟨Or.inl ⟨by rfl, ?hyd2⟩, fun _ => rfl⟩ ?restd2
        case hyd2 => (intro w; go_simp; try with_reducible rfl)
        refine wpAnyIn_ready (rs := [4, 5]) (by kernel_rfl) (by simp) ?_
        refine AllReadyIn.cons rfl (fun K hK => ?_) ?_
        · go_simp
          refine hK _ _ ?_
          clear hK K
          refine wpAnyIn_ready (rs := [5]) (by kernel_rfl) (by simp) ?_
          refine AllReadyIn.cons rfl (fun K hK => ?_) AllReadyIn.nil
          go_simp
          refine hK _ _ ?_
          clear hK K
          refine wpAnyIn_take (i := 6) (v := ?vd3) rfl rfl (by kernel_rfl) (by kernel_rfl) (by kernel_rfl) (fun _ _ _ h => h) ⟨Or.inl ⟨by rfl, ?hyd3⟩, fun _ => rfl⟩ ?restd3
          case hyd3 => (intro w; go_simp; try with_reducible rfl)
          refine wpAnyIn_ready (rs := [7]) (by kernel_rfl) (by simp) ?_
          refine AllReadyIn.cons rfl (fun K hK => ?_) AllReadyIn.nil
          gi_wp2_with (refine ⟨trivial, ?_⟩; gi_at_call 78; refine (callsIn_wide.2 HI'.out).mono ?_; rintro e w2 ⟨s2, c2, rfl, hc2, hb2, hob, k1, k2, hb1⟩; have HK3 : Hid (K3 { tmps := #[.pointer (some ⟨p, 1, none⟩), .pointer (some ⟨t, 0, none⟩), .slice none 0 0, .pointer (some ⟨q, 0, none⟩), undef, undef, .pointer (some ⟨p, 1, none⟩), .tuple #[], .pointer (some ⟨p, 1, none⟩), .func (.func 80) #[] #[.pointer (some ⟨WS, 0, none⟩)], undef, undef, undef, undef, undef, undef, undef, undef, undef, undef, undef, undef, undef, undef, undef, .pointer (some ⟨p, 1, none⟩), .pointer (some ⟨p, 1, none⟩), .pointer (some ⟨p, 1, none⟩), .pointer (some ⟨p, 1, none⟩), .slice sp m cap, .slice us k uc, .int .i64 (k : Int), .slice s2 (m - k) c2, .pointer (some ⟨p, 1, none⟩), .pointer (some ⟨p, 1, none⟩), undef], defers := [{ target := .collected D, args := #[] }] } (w2.setCell ⟨p, 1, none⟩ (.slice s2 (m - k) c2))) := key3 s2 c2 w2 hc2 hb2 hob hb1; have k3 := HKT.out w2 hb1; clear hc2 hb2 hob hb1)
          refine wpAnyIn_take (i := 8) (v := ?vd4) rfl rfl (by kernel_rfl) (by kernel_rfl) (by kernel_rfl) (fun _ _ _ h => h) ⟨Or.inl ⟨by rfl, ?hyd4⟩, fun _ => rfl⟩ ?restd4
          case hyd4 => (intro w; go_simp; try with_reducible rfl)
          refine wpAnyIn_take (i := 9) (v := ?vd5) rfl rfl (by kernel_rfl) (by kernel_rfl) (by kernel_rfl) (fun _ _ _ h => h) ⟨Or.inl ⟨by rfl, ?hyd5⟩, fun _ => rfl⟩ ?restd5
          case hyd5 => (intro w; go_simp; try with_reducible rfl)
          refine wpAnyIn_ready (rs := [10]) (by kernel_rfl) (by simp) ?_
          refine AllReadyIn.cons rfl (fun K hK => ?_) AllReadyIn.nil
          go_simp
          refine hK _ _ ?_
          clear hK K
          refine wpAnyIn_done (by kernel_rfl) ?_ _
          exact HK3.out
        refine AllReadyIn.cons rfl (fun K hK => ?_) AllReadyIn.nil
        go_simp
        refine hK _ _ ?_
        clear hK K
        refine wpAnyIn_take (i := 6) (v := ?vd6) rfl rfl (by kernel_rfl) (by kernel_rfl) (by kernel_rfl) (fun _ _ _ h => h) ⟨Or.inl ⟨by rfl, ?hyd6⟩, fun _ => rfl⟩ ?restd6
        case hyd6 => (intro w; go_simp; try with_reducible rfl)
        refine wpAnyIn_ready (rs := [4]) (by kernel_rfl) (by simp) ?_
        refine AllReadyIn.cons rfl (fun K hK => ?_) AllReadyIn.nil
        go_simp
        refine hK _ _ ?_
        clear hK K
        refine wpAnyIn_ready (rs := [7]) (by kernel_rfl) (by simp) ?_
        refine AllReadyIn.cons rfl (fun K hK => ?_) AllReadyIn.nil
        gi_wp2_with (refine ⟨trivial, ?_⟩; gi_at_call 78; refine (callsIn_wide.2 HI'.out).mono ?_; rintro e w2 ⟨s2, c2, rfl, hc2, hb2, hob, k1, k2, hb1⟩; have HK3 : Hid (K3 { tmps := #[.pointer (some ⟨p, 1, none⟩), .pointer (some ⟨t, 0, none⟩), .slice none 0 0, .pointer (some ⟨q, 0, none⟩), undef, undef, .pointer (some ⟨p, 1, none⟩), .tuple #[], .pointer (some ⟨p, 1, none⟩), .func (.func 80) #[] #[.pointer (some ⟨WS, 0, none⟩)], undef, undef, undef, undef, undef, undef, undef, undef, undef, undef, undef, undef, undef, undef, undef, .pointer (some ⟨p, 1, none⟩), .pointer (some ⟨p, 1, none⟩), .pointer (some ⟨p, 1, none⟩), .pointer (some ⟨p, 1, none⟩), .slice sp m cap, .slice us k uc, .int .i64 (k : Int), .slice s2 (m - k) c2, .pointer (some ⟨p, 1, none⟩), .pointer (some ⟨p, 1, none⟩), undef], defers := [{ target := .collected D, args := #[] }] } (w2.setCell ⟨p, 1, none⟩ (.slice s2 (m - k) c2))) := key3 s2 c2 w2 hc2 hb2 hob hb1; have k3 := HKT.out w2 hb1; clear hc2 hb2 hob hb1)
        refine wpAnyIn_take (i := 8) (v := ?vd7) rfl rfl (by kernel_rfl) (by kernel_rfl) (by kernel_rfl) (fun _ _ _ h => h) ⟨Or.inl ⟨by rfl, ?hyd7⟩, fun _ => rfl⟩ ?restd7
        case hyd7 => (intro w; go_simp; try with_reducible rfl)
        refine wpAnyIn_take (i := 9) (v := ?vd8) rfl rfl (by kernel_rfl) (by kernel_rfl) (by kernel_rfl) (fun _ _ _ h => h) ⟨Or.inl ⟨by rfl, ?hyd8⟩, fun _ => rfl⟩ ?restd8
        case hyd8 => (intro w; go_simp; try with_reducible rfl)
        refine wpAnyIn_ready (rs := [10]) (by kernel_rfl) (by simp) ?_
        refine AllReadyIn.cons rfl (fun K hK => ?_) AllReadyIn.nil
        go_simp
        refine hK _ _ ?_
        clear hK K
        refine wpAnyIn_done (by kernel_rfl) ?_ _
        exact HK3.out
      refine AllReadyIn.cons rfl (fun K hK => ?_) AllReadyIn.nil
      go_simp
      refine hK _ _ ?_
      clear hK K
      refine wpAnyIn_take (i := 6) (v := ?vd9) rfl rfl (by kernel_rfl) (by kernel_rfl) (by kernel_rfl) (fun _ _ _ h => h) ⟨Or.inl ⟨by rfl, ?hyd9⟩, fun _ => rfl⟩ ?restd9
      case hyd9 => (intro w; go_simp; try with_reducible rfl)
      refine wpAnyIn_ready (rs := [1]) (by kernel_rfl) (by simp) ?_
      refine AllReadyIn.cons rfl (fun K hK => ?_) AllReadyIn.nil
      go_simp
      refine hK _ _ ?_
      clear hK K
      refine wpAnyIn_take (i := 2) (v := ?vd10) rfl rfl (by kernel_rfl) (by kernel_rfl) (by kernel_rfl) (fun _ _ _ h => h) ⟨Or.inl ⟨by rfl, ?hyd10⟩, fun _ => rfl⟩ ?restd10
      case hyd10 => (intro w; go_simp; try with_reducible rfl)
      refine wpAnyIn_take (i := 3) (v := ?vd11) rfl rfl (by kernel_rfl) (by kernel_rfl) (by kernel_rfl) (fun _ _ _ h => h) ⟨Or.inl ⟨by rfl, ?hyd11⟩, fun _ => rfl⟩ ?restd11
      case hyd11 => (intro w; go_simp; try with_reducible rfl)
      refine wpAnyIn_ready (rs := [4]) (by kernel_rfl) (by simp) ?_
      refine AllReadyIn.cons rfl (fun K hK => ?_) AllReadyIn.nil
      go_simp
      refine hK _ _ ?_
      clear hK K
      refine wpAnyIn_ready (rs := [7]) (by kernel_rfl) (by simp) ?_
      refine AllReadyIn.cons rfl (fun K hK => ?_) AllReadyIn.nil
      gi_wp2_with (refine ⟨trivial, ?_⟩; gi_at_call 78; refine (callsIn_wide.2 HI'.out).mono ?_; rintro e w2 ⟨s2, c2, rfl, hc2, hb2, hob, k1, k2, hb1⟩; have HK3 : Hid (K3 { tmps := #[.pointer (some ⟨p, 1, none⟩), .pointer (some ⟨t, 0, none⟩), .slice none 0 0, .pointer (some ⟨q, 0, none⟩), undef, undef, .pointer (some ⟨p, 1, none⟩), .tuple #[], .pointer (some ⟨p, 1, none⟩), .func (.func 80) #[] #[.pointer (some ⟨WS, 0, none⟩)], undef, undef, undef, undef, undef, undef, undef, undef, undef, undef, undef, undef, undef, undef, undef, .pointer (some ⟨p, 1, none⟩), .pointer (some ⟨p, 1, none⟩), .pointer (some ⟨p, 1, none⟩), .pointer (some ⟨p, 1, none⟩), .slice sp m cap, .slice us k uc, .int .i64 (k : Int), .slice s2 (m - k) c2, .pointer (some ⟨p, 1, none⟩), .pointer (some ⟨p, 1, none⟩), undef], defers := [{ target := .collected D, args := #[] }] } (w2.setCell ⟨p, 1, none⟩ (.slice s2 (m - k) c2))) := key3 s2 c2 w2 hc2 hb2 hob hb1; have k3 := HKT.out w2 hb1; clear hc2 hb2 hob hb1)
      refine wpAnyIn_take (i := 8) (v := ?vd12) rfl rfl (by kernel_rfl) (by kernel_rfl) (by kernel_rfl) (fun _ _ _ h => h) ⟨Or.inl ⟨by rfl, ?hyd12⟩, fun _ => rfl⟩ ?restd12
      case hyd12 => (intro w; go_simp; try with_reducible rfl)
      refine wpAnyIn_take (i := 9) (v := ?vd13) rfl rfl (by kernel_rfl) (by kernel_rfl) (by kernel_rfl) (fun _ _ _ h => h) ⟨Or.inl ⟨by rfl, ?hyd13⟩, fun _ => rfl⟩ ?restd13
      case hyd13 => (intro w; go_simp; try with_reducible rfl)
      refine wpAnyIn_ready (rs := [10]) (by kernel_rfl) (by simp) ?_
      refine AllReadyIn.cons rfl (fun K hK => ?_) AllReadyIn.nil
      go_simp
      refine hK _ _ ?_
      clear hK K
      refine wpAnyIn_done (by kernel_rfl) ?_ _
      exact HK3.out
    refine AllReadyIn.cons rfl (fun K hK => ?_) ?_
    · go_simp
      refine hK _ _ ?_
      clear hK K
      refine wpAnyIn_take (i := 2) (v := ?vd14) rfl rfl (by kernel_rfl) (by kernel_rfl) (by kernel_rfl) (fun _ _ _ h => h) ⟨Or.inl ⟨by rfl, ?hyd14⟩, fun _ => rfl⟩ ?restd14
      case hyd14 => (intro w; go_simp; try with_reducible rfl)
      refine wpAnyIn_take (i := 3) (v := ?vd15) rfl rfl (by kernel_rfl) (by kernel_rfl) (by kernel_rfl) (fun _ _ _ h => h) ⟨Or.inl ⟨by rfl, ?hyd15⟩, fun _ => rfl⟩ ?restd15
      case hyd15 => (intro w; go_simp; try with_reducible rfl)
      refine wpAnyIn_ready (rs := [0, 4, 5]) (by kernel_rfl) (by simp) ?_
      refine AllReadyIn.cons rfl (fun K hK => ?_) ?_
      · go_simp
        refine hK _ _ ?_
        clear hK K
        refine wpAnyIn_ready (rs := [4, 5]) (by kernel_rfl) (by simp) ?_
        refine AllReadyIn.cons rfl (fun K hK => ?_) ?_
        · go_simp
          refine hK _ _ ?_
          clear hK K
          refine wpAnyIn_ready (rs := [5]) (by kernel_rfl) (by simp) ?_
          refine AllReadyIn.cons rfl (fun K hK => ?_) AllReadyIn.nil
          go_simp
          refine hK _ _ ?_
          clear hK K
          refine wpAnyIn_take (i := 6) (v := ?vd16) rfl rfl (by kernel_rfl) (by kernel_rfl) (by kernel_rfl) (fun _ _ _ h => h) ⟨Or.inl ⟨by rfl, ?hyd16⟩, fun _ => rfl⟩ ?restd16
          case hyd16 => (intro w; go_simp; try with_reducible rfl)
          refine wpAnyIn_ready (rs := [7]) (by kernel_rfl) (by simp) ?_
          refine AllReadyIn.cons rfl (fun K hK => ?_) AllReadyIn.nil
          gi_wp2_with (refine ⟨trivial, ?_⟩; gi_at_call 78; refine (callsIn_wide.2 HI'.out).mono ?_; rintro e w2 ⟨s2, c2, rfl, hc2, hb2, hob, k1, k2, hb1⟩; have HK3 : Hid (K3 { tmps := #[.pointer (some ⟨p, 1, none⟩), .pointer (some ⟨t, 0, none⟩), .slice none 0 0, .pointer (some ⟨q, 0, none⟩), undef, undef, .pointer (some ⟨p, 1, none⟩), .tuple #[], .pointer (some ⟨p, 1, none⟩), .func (.func 80) #[] #[.pointer (some ⟨WS, 0, none⟩)], undef, undef, undef, undef, undef, undef, undef, undef, undef, undef, undef, undef, undef, undef, undef, .pointer (some ⟨p, 1, none⟩), .pointer (some ⟨p, 1, none⟩), .pointer (some ⟨p, 1, none⟩), .pointer (some ⟨p, 1, none⟩), .slice sp m cap, .slice us k uc, .int .i64 (k : Int), .slice s2 (m - k) c2, .pointer (some ⟨p, 1, none⟩), .pointer (some ⟨p, 1, none⟩), undef], defers := [{ target := .collected D, args := #[] }] } (w2.setCell ⟨p, 1, none⟩ (.slice s2 (m - k) c2))) := key3 s2 c2 w2 hc2 hb2 hob hb1; have k3 := HKT.out w2 hb1; clear hc2 hb2 hob hb1)
          refine wpAnyIn_take (i := 8) (v := ?vd17) rfl rfl (by kernel_rfl) (by kernel_rfl) (by kernel_rfl) (fun _ _ _ h => h) ⟨Or.inl ⟨by rfl, ?hyd17⟩, fun _ => rfl⟩ ?restd17
          case hyd17 => (intro w; go_simp; try with_reducible rfl)
          refine wpAnyIn_take (i := 9) (v := ?vd18) rfl rfl (by kernel_rfl) (by kernel_rfl) (by kernel_rfl) (fun _ _ _ h => h) ⟨Or.inl ⟨by rfl, ?hyd18⟩, fun _ => rfl⟩ ?restd18
          case hyd18 => (intro w; go_simp; try with_reducible rfl)
          refine wpAnyIn_ready (rs := [10]) (by kernel_rfl) (by simp) ?_
          refine AllReadyIn.cons rfl (fun K hK => ?_) AllReadyIn.nil
          go_simp
          refine hK _ _ ?_
          clear hK K
          refine wpAnyIn_done (by kernel_rfl) ?_ _
          exact HK3.out
        refine AllReadyIn.cons rfl (fun K hK => ?_) AllReadyIn.nil
        go_simp
        refine hK _ _ ?_
        clear hK K
        refine wpAnyIn_take (i := 6) (v := ?vd19) rfl rfl (by kernel_rfl) (by kernel_rfl) (by kernel_rfl) (fun _ _ _ h => h) ⟨Or.inl ⟨by rfl, ?hyd19⟩, fun _ => rfl⟩ ?restd19
        case hyd19 => (intro w; go_simp; try with_reducible rfl)
        refine wpAnyIn_ready (rs := [4]) (by kernel_rfl) (by simp) ?_
        refine AllReadyIn.cons rfl (fun K hK => ?_) AllReadyIn.nil
        go_simp
        refine hK _ _ ?_
        clear hK K
        refine wpAnyIn_ready (rs := [7]) (by kernel_rfl) (by simp) ?_
        refine AllReadyIn.cons rfl (fun K hK => ?_) AllReadyIn.nil
        gi_wp2_with (refine ⟨trivial, ?_⟩; gi_at_call 78; refine (callsIn_wide.2 HI'.out).mono ?_; rintro e w2 ⟨s2, c2, rfl, hc2, hb2, hob, k1, k2, hb1⟩; have HK3 : Hid (K3 { tmps := #[.pointer (some ⟨p, 1, none⟩), .pointer (some ⟨t, 0, none⟩), .slice none 0 0, .pointer (some ⟨q, 0, none⟩), undef, undef, .pointer (some ⟨p, 1, none⟩), .tuple #[], .pointer (some ⟨p, 1, none⟩), .func (.func 80) #[] #[.pointer (some ⟨WS, 0, none⟩)], undef, undef, undef, undef, undef, undef, undef, undef, undef, undef, undef, undef, undef, undef, undef, .pointer (some ⟨p, 1, none⟩), .pointer (some ⟨p, 1, none⟩), .pointer (some ⟨p, 1, none⟩), .pointer (some ⟨p, 1, none⟩), .slice sp m cap, .slice us k uc, .int .i64 (k : Int), .slice s2 (m - k) c2, .pointer (some ⟨p, 1, none⟩), .pointer (some ⟨p, 1, none⟩), undef], defers := [{ target := .collected D, args := #[] }] } (w2.setCell ⟨p, 1, none⟩ (.slice s2 (m - k) c2))) := key3 s2 c2 w2 hc2 hb2 hob hb1; have k3 := HKT.out w2 hb1; clear hc2 hb2 hob hb1)
        refine wpAnyIn_take (i := 8) (v := ?vd20) rfl rfl (by kernel_rfl) (by kernel_rfl) (by kernel_rfl) (fun _ _ _ h => h) ⟨Or.inl ⟨by rfl, ?hyd20⟩, fun _ => rfl⟩ ?restd20
        case hyd20 => (intro w; go_simp; try with_reducible rfl)
        refine wpAnyIn_take (i := 9) (v := ?vd21) rfl rfl (by kernel_rfl) (by kernel_rfl) (by kernel_rfl) (fun _ _ _ h => h) ⟨Or.inl ⟨by rfl, ?hyd21⟩, fun _ => rfl⟩ ?restd21
        case hyd21 => (intro w; go_simp; try with_reducible rfl)
        refine wpAnyIn_ready (rs := [10]) (by kernel_rfl) (by simp) ?_
        refine AllReadyIn.cons rfl (fun K hK => ?_) AllReadyIn.nil
        go_simp
        refine hK _ _ ?_
        clear hK K
        refine wpAnyIn_done (by kernel_rfl) ?_ _
        exact HK3.out
      refine AllReadyIn.cons rfl (fun K hK => ?_) ?_
      · go_simp
        refine hK _ _ ?_
        clear hK K
        refine wpAnyIn_ready (rs := [0, 5]) (by kernel_rfl) (by simp) ?_
        refine AllReadyIn.cons rfl (fun K hK => ?_) ?_
        · go_simp
          refine hK _ _ ?_
          clear hK K
          refine wpAnyIn_ready (rs := [5]) (by kernel_rfl) (by simp) ?_
          refine AllReadyIn.cons rfl (fun K hK => ?_) AllReadyIn.nil
          go_simp
          refine hK _ _ ?_
          clear hK K
          refine wpAnyIn_take (i := 6) (v := ?vd22) rfl rfl (by kernel_rfl) (by kernel_rfl) (by kernel_rfl) (fun _ _ _ h => h) ⟨Or.inl ⟨by rfl, ?hyd22⟩, fun _ => rfl⟩ ?restd22
          case hyd22 => (intro w; go_simp; try with_reducible rfl)
          refine wpAnyIn_ready (rs := [7]) (by kernel_rfl) (by simp) ?_
          refine AllReadyIn.cons rfl (fun K hK => ?_) AllReadyIn.nil
          gi_wp2_with (refine ⟨trivial, ?_⟩; gi_at_call 78; refine (callsIn_wide.2 HI'.out).mono ?_; rintro e w2 ⟨s2, c2, rfl, hc2, hb2, hob, k1, k2, hb1⟩; have HK3 : Hid (K3 { tmps := #[.pointer (some ⟨p, 1, none⟩), .pointer (some ⟨t, 0, none⟩), .slice none 0 0, .pointer (some ⟨q, 0, none⟩), undef, undef, .pointer (some ⟨p, 1, none⟩), .tuple #[], .pointer (some ⟨p, 1, none⟩), .func (.func 80) #[] #[.pointer (some ⟨WS, 0, none⟩)], undef, undef, undef, undef, undef, undef, undef, undef, undef, undef, undef, undef, undef, undef, undef, .pointer (some ⟨p, 1, none⟩), .pointer (some ⟨p, 1, none⟩), .pointer (some ⟨p, 1, none⟩), .pointer (some ⟨p, 1, none⟩), .slice sp m cap, .slice us k uc, .int .i64 (k : Int), .slice s2 (m - k) c2, .pointer (some ⟨p, 1, none⟩), .pointer (some ⟨p, 1, none⟩), undef], defers := [{ target := .collected D, args := #[] }] } (w2.setCell ⟨p, 1, none⟩ (.slice s2 (m - k) c2))) := key3 s2 c2 w2 hc2 hb2 hob hb1; have k3 := HKT.out w2 hb1; clear hc2 hb2 hob hb1)
          refine wpAnyIn_take (i := 8) (v := ?vd23) rfl rfl (by kernel_rfl) (by kernel_rfl) (by kernel_rfl) (fun _ _ _ h => h) ⟨Or.inl ⟨by rfl, ?hyd23⟩, fun _ => rfl⟩ ?restd23
          case hyd23 => (intro w; go_simp; try with_reducible rfl)
          refine wpAnyIn_take (i := 9) (v := ?vd24) rfl rfl (by kernel_rfl) (by kernel_rfl) (by kernel_rfl) (fun _ _ _ h => h) ⟨Or.inl ⟨by rfl, ?hyd24⟩, fun _ => rfl⟩ ?restd24
          case hyd24 => (intro w; go_simp; try with_reducible rfl)
          refine wpAnyIn_ready (rs := [10]) (by kernel_rfl) (by simp) ?_
          refine AllReadyIn.cons rfl (fun K hK => ?_) AllReadyIn.nil
          go_simp
          refine hK _ _ ?_
          clear hK K
          refine wpAnyIn_done (by kernel_rfl) ?_ _
          exact HK3.out
        refine AllReadyIn.cons rfl (fun K hK => ?_) AllReadyIn.nil
        go_simp
        refine hK _ _ ?_
        clear hK K
        refine wpAnyIn_take (i := 6) (v := ?vd25) rfl rfl (by kernel_rfl) (by kernel_rfl) (by kernel_rfl) (fun _ _ _ h => h) ⟨Or.inl ⟨by rfl, ?hyd25⟩, fun _ => rfl⟩ ?restd25
        case hyd25 => (intro w; go_simp; try with_reducible rfl)
        refine wpAnyIn_ready (rs := [0, 7]) (by kernel_rfl) (by simp) ?_
        refine AllReadyIn.cons rfl (fun K hK => ?_) ?_
        · go_simp
          refine hK _ _ ?_
          clear hK K
          refine wpAnyIn_ready (rs := [7]) (by kernel_rfl) (by simp) ?_
          refine AllReadyIn.cons rfl (fun K hK => ?_) AllReadyIn.nil
          gi_wp2_with (refine ⟨trivial, ?_⟩; gi_at_call 78; refine (callsIn_wide.2 HI'.out).mono ?_; rintro e w2 ⟨s2, c2, rfl, hc2, hb2, hob, k1, k2, hb1⟩; have HK3 : Hid (K3 { tmps := #[.pointer (some ⟨p, 1, none⟩), .pointer (some ⟨t, 0, none⟩), .slice none 0 0, .pointer (some ⟨q, 0, none⟩), undef, undef, .pointer (some ⟨p, 1, none⟩), .tuple #[], .pointer (some ⟨p, 1, none⟩), .func (.func 80) #[] #[.pointer (some ⟨WS, 0, none⟩)], undef, undef, undef, undef, undef, undef, undef, undef, undef, undef, undef, undef, undef, undef, undef, .pointer (some ⟨p, 1, none⟩), .pointer (some ⟨p, 1, none⟩), .pointer (some ⟨p, 1, none⟩), .pointer (some ⟨p, 1, none⟩), .slice sp m cap, .slice us k uc, .int .i64 (k : Int), .slice s2 (m - k) c2, .pointer (some ⟨p, 1, none⟩), .pointer (some ⟨p, 1, none⟩), undef], defers := [{ target := .collected D, args := #[] }] } (w2.setCell ⟨p, 1, none⟩ (.slice s2 (m - k) c2))) := key3 s2 c2 w2 hc2 hb2 hob hb1; have k3 := HKT.out w2 hb1; clear hc2 hb2 hob hb1)
          refine wpAnyIn_take (i := 8) (v := ?vd26) rfl rfl (by kernel_rfl) (by kernel_rfl) (by kernel_rfl) (fun _ _ _ h => h) ⟨Or.inl ⟨by rfl, ?hyd26⟩, fun _ => rfl⟩ ?restd26
          case hyd26 => (intro w; go_simp; try with_reducible rfl)
          refine wpAnyIn_take (i := 9) (v := ?vd27) rfl rfl (by kernel_rfl) (by kernel_rfl) (by kernel_rfl) (fun _ _ _ h => h) ⟨Or.inl ⟨by rfl, ?hyd27⟩, fun _ => rfl⟩ ?restd27
          case hyd27 => (intro w; go_simp; try with_reducible rfl)
          refine wpAnyIn_ready (rs := [10]) (by kernel_rfl) (by simp) ?_
          refine AllReadyIn.cons rfl (fun K hK => ?_) AllReadyIn.nil
          go_simp
          refine hK _ _ ?_
          clear hK K
          refine wpAnyIn_done (by kernel_rfl) ?_ _
          exact HK3.out
        refine AllReadyIn.cons rfl (fun K hK => ?_) AllReadyIn.nil
        gi_wp2_with (refine ⟨trivial, ?_⟩; gi_at_call 78; refine (callsIn_wide.2 HI'.out).mono ?_; rintro e w2 ⟨s2, c2, rfl, hc2, hb2, hob, k1, k2, hb1⟩; have HK3 : Hid (K3 { tmps := #[.pointer (some ⟨p, 1, none⟩), .pointer (some ⟨t, 0, none⟩), .slice none 0 0, .pointer (some ⟨q, 0, none⟩), undef, undef, .pointer (some ⟨p, 1, none⟩), .tuple #[], .pointer (some ⟨p, 1, none⟩), .func (.func 80) #[] #[.pointer (some ⟨WS, 0, none⟩)], undef, undef, undef, undef, undef, undef, undef, undef, undef, undef, undef, undef, undef, undef, undef, .pointer (some ⟨p, 1, none⟩), .pointer (some ⟨p, 1, none⟩), .pointer (some ⟨p, 1, none⟩), .pointer (some ⟨p, 1, none⟩), .slice sp m cap, .slice us k uc, .int .i64 (k : Int), .slice s2 (m - k) c2, .pointer (some ⟨p, 1, none⟩), .pointer (some ⟨p, 1, none⟩), undef], defers := [{ target := .collected D, args := #[] }] } (w2.setCell ⟨p, 1, none⟩ (.slice s2 (m - k) c2))) := key3 s2 c2 w2 hc2 hb2 hob hb1; have k3 := HKT.out w2 hb1; clear hc2 hb2 hob hb1)
        refine wpAnyIn_ready (rs := [0]) (by kernel_rfl) (by simp) ?_
        refine AllReadyIn.cons rfl (fun K hK => ?_) AllReadyIn.nil
        go_simp
        refine hK _ _ ?_
        clear hK K
        refine wpAnyIn_take (i := 8) (v := ?vd28) rfl rfl (by kernel_rfl) (by kernel_rfl) (by kernel_rfl) (fun _ _ _ h => h) ⟨Or.inl ⟨by rfl, ?hyd28⟩, fun _ => rfl⟩ ?restd28
        case hyd28 => (intro w; go_simp; try with_reducible rfl)
        refine wpAnyIn_take (i := 9) (v := ?vd29) rfl rfl (by kernel_rfl) (by kernel_rfl) (by kernel_rfl) (fun _ _ _ h => h) ⟨Or.inl ⟨by rfl, ?hyd29⟩, fun _ => rfl⟩ ?restd29
        case hyd29 => (intro w; go_simp; try with_reducible rfl)
        refine wpAnyIn_ready (rs := [10]) (by kernel_rfl) (by simp) ?_
        refine AllReadyIn.cons rfl (fun K hK => ?_) AllReadyIn.nil
        go_simp
        refine hK _ _ ?_
        clear hK K
        refine wpAnyIn_done (by kernel_rfl) ?_ _
        exact HK3.out
      refine AllReadyIn.cons rfl (fun K hK => ?_) AllReadyIn.nil
      go_simp
      refine hK _ _ ?_
      clear hK K
      refine wpAnyIn_take (i := 6) (v := ?vd30) rfl rfl (by kernel_rfl) (by kernel_rfl) (by kernel_rfl) (fun _ _ _ h => h) ⟨Or.inl ⟨by rfl, ?hyd30⟩, fun _ => rfl⟩ ?restd30
      case hyd30 => (intro w; go_simp; try with_reducible rfl)
      refine wpAnyIn_ready (rs := [0, 4]) (by kernel_rfl) (by simp) ?_
      refine AllReadyIn.cons rfl (fun K hK => ?_) ?_
      · go_simp
        refine hK _ _ ?_
        clear hK K
        refine wpAnyIn_ready (rs := [4]) (by kernel_rfl) (by simp) ?_
        refine AllReadyIn.cons rfl (fun K hK => ?_) AllReadyIn.nil
        go_simp
        refine hK _ _ ?_
        clear hK K
        refine wpAnyIn_ready (rs := [7]) (by kernel_rfl) (by simp) ?_
        refine AllReadyIn.cons rfl (fun K hK => ?_) AllReadyIn.nil
        gi_wp2_with (refine ⟨trivial, ?_⟩; gi_at_call 78; refine (callsIn_wide.2 HI'.out).mono ?_; rintro e w2 ⟨s2, c2, rfl, hc2, hb2, hob, k1, k2, hb1⟩; have HK3 : Hid (K3 { tmps := #[.pointer (some ⟨p, 1, none⟩), .pointer (some ⟨t, 0, none⟩), .slice none 0 0, .pointer (some ⟨q, 0, none⟩), undef, undef, .pointer (some ⟨p, 1, none⟩), .tuple #[], .pointer (some ⟨p, 1, none⟩), .func (.func 80) #[] #[.pointer (some ⟨WS, 0, none⟩)], undef, undef, undef, undef, undef, undef, undef, undef, undef, undef, undef, undef, undef, undef, undef, .pointer (some ⟨p, 1, none⟩), .pointer (some ⟨p, 1, none⟩), .pointer (some ⟨p, 1, none⟩), .pointer (some ⟨p, 1, none⟩), .slice sp m cap, .slice us k uc, .int .i64 (k : Int), .slice s2 (m - k) c2, .pointer (some ⟨p, 1, none⟩), .pointer (some ⟨p, 1, none⟩), undef], defers := [{ target := .collected D, args := #[] }] } (w2.setCell ⟨p, 1, none⟩ (.slice s2 (m - k) c2))) := key3 s2 c2 w2 hc2 hb2 hob hb1; have k3 := HKT.out w2 hb1; clear hc2 hb2 hob hb1)
        refine wpAnyIn_take (i := 8) (v := ?vd31) rfl rfl (by kernel_rfl) (by kernel_rfl) (by kernel_rfl) (fun _ _ _ h => h) ⟨Or.inl ⟨by rfl, ?hyd31⟩, fun _ => rfl⟩ ?restd31
        case hyd31 => (intro w; go_simp; try with_reducible rfl)
        refine wpAnyIn_take (i := 9) (v := ?vd32) rfl rfl (by kernel_rfl) (by kernel_rfl) (by kernel_rfl) (fun _ _ _ h => h) ⟨Or.inl ⟨by rfl, ?hyd32⟩, fun _ => rfl⟩ ?restd32
        case hyd32 => (intro w; go_simp; try with_reducible rfl)
        refine wpAnyIn_ready (rs := [10]) (by kernel_rfl) (by simp) ?_
        refine AllReadyIn.cons rfl (fun K hK => ?_) AllReadyIn.nil
        go_simp
        refine hK _ _ ?_
        clear hK K
        refine wpAnyIn_done (by kernel_rfl) ?_ _
        exact HK3.out
      refine AllReadyIn.cons rfl (fun K hK => ?_) AllReadyIn.nil
      go_simp
      refine hK _ _ ?_
      clear hK K
      refine wpAnyIn_ready (rs := [0, 7]) (by kernel_rfl) (by simp) ?_
      refine AllReadyIn.cons rfl (fun K hK => ?_) ?_
      · go_simp
        refine hK _ _ ?_
        clear hK K
        refine wpAnyIn_ready (rs := [7]) (by kernel_rfl) (by simp) ?_
        refine AllReadyIn.cons rfl (fun K hK => ?_) AllReadyIn.nil
        gi_wp2_with (refine ⟨trivial, ?_⟩; gi_at_call 78; refine (callsIn_wide.2 HI'.out).mono ?_; rintro e w2 ⟨s2, c2, rfl, hc2, hb2, hob, k1, k2, hb1⟩; have HK3 : Hid (K3 { tmps := #[.pointer (some ⟨p, 1, none⟩), .pointer (some ⟨t, 0, none⟩), .slice none 0 0, .pointer (some ⟨q, 0, none⟩), undef, undef, .pointer (some ⟨p, 1, none⟩), .tuple #[], .pointer (some ⟨p, 1, none⟩), .func (.func 80) #[] #[.pointer (some ⟨WS, 0, none⟩)], undef, undef, undef, undef, undef, undef, undef, undef, undef, undef, undef, undef, undef, undef, undef, .pointer (some ⟨p, 1, none⟩), .pointer (some ⟨p, 1, none⟩), .pointer (some ⟨p, 1, none⟩), .pointer (some ⟨p, 1, none⟩), .slice sp m cap, .slice us k uc, .int .i64 (k : Int), .slice s2 (m - k) c2, .pointer (some ⟨p, 1, none⟩), .pointer (some ⟨p, 1, none⟩), undef], defers := [{ target := .collected D, args := #[] }] } (w2.setCell ⟨p, 1, none⟩ (.slice s2 (m - k) c2))) := key3 s2 c2 w2 hc2 hb2 hob hb1; have k3 := HKT.out w2 hb1; clear hc2 hb2 hob hb1)
        refine wpAnyIn_take (i := 8) (v := ?vd33) rfl rfl (by kernel_rfl) (by kernel_rfl) (by kernel_rfl) (fun _ _ _ h => h) ⟨Or.inl ⟨by rfl, ?hyd33⟩, fun _ => rfl⟩ ?restd33
        case hyd33 => (intro w; go_simp; try with_reducible rfl)
        refine wpAnyIn_take (i := 9) (v := ?vd34) rfl rfl (by kernel_rfl) (by kernel_rfl) (by kernel_rfl) (fun _ _ _ h => h) ⟨Or.inl ⟨by rfl, ?hyd34⟩, fun _ => rfl⟩ ?restd34
        case hyd34 => (intro w; go_simp; try with_reducible rfl)
        refine wpAnyIn_ready (rs := [10]) (by kernel_rfl) (by simp) ?_
        refine AllReadyIn.cons rfl (fun K hK => ?_) AllReadyIn.nil
        go_simp
        refine hK _ _ ?_
        clear hK K
        refine wpAnyIn_done (by kernel_rfl) ?_ _
        exact HK3.out
      refine AllReadyIn.cons rfl (fun K hK => ?_) AllReadyIn.nil
      gi_wp2_with (refine ⟨trivial, ?_⟩; gi_at_call 78; refine (callsIn_wide.2 HI'.out).mono ?_; rintro e w2 ⟨s2, c2, rfl, hc2, hb2, hob, k1, k2, hb1⟩; have HK3 : Hid (K3 { tmps := #[.pointer (some ⟨p, 1, none⟩), .pointer (some ⟨t, 0, none⟩), .slice none 0 0, .pointer (some ⟨q, 0, none⟩), undef, undef, .pointer (some ⟨p, 1, none⟩), .tuple #[], .pointer (some ⟨p, 1, none⟩), .func (.func 80) #[] #[.pointer (some ⟨WS, 0, none⟩)], undef, undef, undef, undef, undef, undef, undef, undef, undef, undef, undef, undef, undef, undef, undef, .pointer (some ⟨p, 1, none⟩), .pointer (some ⟨p, 1, none⟩), .pointer (some ⟨p, 1, none⟩), .pointer (some ⟨p, 1, none⟩), .slice sp m cap, .slice us k uc, .int .i64 (k : Int), .slice s2 (m - k) c2, .pointer (some ⟨p, 1, none⟩), .pointer (some ⟨p, 1, none⟩), undef], defers := [{ target := .collected D, args := #[] }] } (w2.setCell ⟨p, 1, none⟩ (.slice s2 (m - k) c2))) := key3 s2 c2 w2 hc2 hb2 hob hb1; have k3 := HKT.out w2 hb1; clear hc2 hb2 hob hb1)
      refine wpAnyIn_ready (rs := [0]) (by kernel_rfl) (by simp) ?_
      refine AllReadyIn.cons rfl (fun K hK => ?_) AllReadyIn.nil
      go_simp
      refine hK _ _ ?_
      clear hK K
      refine wpAnyIn_take (i := 8) (v := ?vd35) rfl rfl (by kernel_rfl) (by kernel_rfl) (by kernel_rfl) (fun _ _ _ h => h) ⟨Or.inl ⟨by rfl, ?hyd35⟩, fun _ => rfl⟩ ?restd35
      case hyd35 => (intro w; go_simp; try with_reducible rfl)
      refine wpAnyIn_take (i := 9) (v := ?vd36) rfl rfl (by kernel_rfl) (by kernel_rfl) (by kernel_rfl) (fun _ _ _ h => h) ⟨Or.inl ⟨by rfl, ?hyd36⟩, fun _ => rfl⟩ ?restd36
      case hyd36 => (intro w; go_simp; try with_reducible rfl)
      refine wpAnyIn_ready (rs := [10]) (by kernel_rfl) (by simp) ?_
      refine AllReadyIn.cons rfl (fun K hK => ?_) AllReadyIn.nil
      go_simp
      refine hK _ _ ?_
      clear hK K
      refine wpAnyIn_done (by kernel_rfl) ?_ _
      exact HK3.out
    refine AllReadyIn.cons rfl (fun K hK => ?_) AllReadyIn.nil
    go_simp
    refine hK _ _ ?_
    clear hK K
    refine wpAnyIn_take (i := 6) (v := ?vd37) rfl rfl (by kernel_rfl) (by kernel_rfl) (by kernel_rfl) (fun _ _ _ h => h) ⟨Or.inl ⟨by rfl, ?hyd37⟩, fun _ => rfl⟩ ?restd37
    case hyd37 => (intro w; go_simp; try with_reducible rfl)
    refine wpAnyIn_ready (rs := [0, 1]) (by kernel_rfl) (by simp) ?_
    refine AllReadyIn.cons rfl (fun K hK => ?_) ?_
    · go_simp
      refine hK _ _ ?_
      clear hK K
      refine wpAnyIn_ready (rs := [1]) (by kernel_rfl) (by simp) ?_
      refine AllReadyIn.cons rfl (fun K hK => ?_) AllReadyIn.nil
      go_simp
      refine hK _ _ ?_
      clear hK K
      refine wpAnyIn_take (i := 2) (v := ?vd38) rfl rfl (by kernel_rfl) (by kernel_rfl) (by kernel_rfl) (fun _ _ _ h => h) ⟨Or.inl ⟨by rfl, ?hyd38⟩, fun _ => rfl⟩ ?restd38
      case hyd38 => (intro w; go_simp; try with_reducible rfl)
      refine wpAnyIn_take (i := 3) (v := ?vd39) rfl rfl (by kernel_rfl) (by kernel_rfl) (by kernel_rfl) (fun _ _ _ h => h) ⟨Or.inl ⟨by rfl, ?hyd39⟩, fun _ => rfl⟩ ?restd39
      case hyd39 => (intro w; go_simp; try with_reducible rfl)
      refine wpAnyIn_ready (rs := [4]) (by kernel_rfl) (by simp) ?_
      refine AllReadyIn.cons rfl (fun K hK => ?_) AllReadyIn.nil
      go_simp
      refine hK _ _ ?_
      clear hK K
      refine wpAnyIn_ready (rs := [7]) (by kernel_rfl) (by simp) ?_
      refine AllReadyIn.cons rfl (fun K hK => ?_) AllReadyIn.nil
      gi_wp2_with (refine ⟨trivial, ?_⟩; gi_at_call 78; refine (callsIn_wide.2 HI'.out).mono ?_; rintro e w2 ⟨s2, c2, rfl, hc2, hb2, hob, k1, k2, hb1⟩; have HK3 : Hid (K3 { tmps := #[.pointer (some ⟨p, 1, none⟩), .pointer (some ⟨t, 0, none⟩), .slice none 0 0, .pointer (some ⟨q, 0, none⟩), undef, undef, .pointer (some ⟨p, 1, none⟩), .tuple #[], .pointer (some ⟨p, 1, none⟩), .func (.func 80) #[] #[.pointer (some ⟨WS, 0, none⟩)], undef, undef, undef, undef, undef, undef, undef, undef, undef, undef, undef, undef, undef, undef, undef, .pointer (some ⟨p, 1, none⟩), .pointer (some ⟨p, 1, none⟩), .pointer (some ⟨p, 1, none⟩), .pointer (some ⟨p, 1, none⟩), .slice sp m cap, .slice us k uc, .int .i64 (k : Int), .slice s2 (m - k) c2, .pointer (some ⟨p, 1, none⟩), .pointer (some ⟨p, 1, none⟩), undef], defers := [{ target := .collected D, args := #[] }] } (w2.setCell ⟨p, 1, none⟩ (.slice s2 (m - k) c2))) := key3 s2 c2 w2 hc2 hb2 hob hb1; have k3 := HKT.out w2 hb1; clear hc2 hb2 hob hb1)
      refine wpAnyIn_take (i := 8) (v := ?vd40) rfl rfl (by kernel_rfl) (by kernel_rfl) (by kernel_rfl) (fun _ _ _ h => h) ⟨Or.inl ⟨by rfl, ?hyd40⟩, fun _ => rfl⟩ ?restd40
      case hyd40 => (intro w; go_simp; try with_reducible rfl)
      refine wpAnyIn_take (i := 9) (v := ?vd41) rfl rfl (by kernel_rfl) (by kernel_rfl) (by kernel_rfl) (fun _ _ _ h => h) ⟨Or.inl ⟨by rfl, ?hyd41⟩, fun _ => rfl⟩ ?restd41
      case hyd41 => (intro w; go_simp; try with_reducible rfl)
      refine wpAnyIn_ready (rs := [10]) (by kernel_rfl) (by simp) ?_
      refine AllReadyIn.cons rfl (fun K hK => ?_) AllReadyIn.nil
      go_simp
      refine hK _ _ ?_
      clear hK K
      refine wpAnyIn_done (by kernel_rfl) ?_ _
      exact HK3.out
    refine AllReadyIn.cons rfl (fun K hK => ?_) AllReadyIn.nil
    go_simp
    refine hK _ _ ?_
    clear hK K
    refine wpAnyIn_take (i := 2) (v := ?vd42) rfl rfl (by kernel_rfl) (by kernel_rfl) (by kernel_rfl) (fun _ _ _ h => h) ⟨Or.inl ⟨by rfl, ?hyd42⟩, fun _ => rfl⟩ ?restd42
    case hyd42 => (intro w; go_simp; try with_reducible rfl)
    refine wpAnyIn_take (i := 3) (v := ?vd43) rfl rfl (by kernel_rfl) (by kernel_rfl) (by kernel_rfl) (fun _ _ _ h => h) ⟨Or.inl ⟨by rfl, ?hyd43⟩, fun _ => rfl⟩ ?restd43
    case hyd43 => (intro w; go_simp; try with_reducible rfl)
    refine wpAnyIn_ready (rs := [0, 4]) (by kernel_rfl) (by simp) ?_
    refine AllReadyIn.cons rfl (fun K hK => ?_) ?_
    · go_simp
      refine hK _ _ ?_
      clear hK K
      refine wpAnyIn_ready (rs := [4]) (by kernel_rfl) (by simp) ?_
      refine AllReadyIn.cons rfl (fun K hK => ?_) AllReadyIn.nil
      go_simp
      refine hK _ _ ?_
      clear hK K
      refine wpAnyIn_ready (rs := [7]) (by kernel_rfl) (by simp) ?_
      refine AllReadyIn.cons rfl (fun K hK => ?_) AllReadyIn.nil
      gi_wp2_with (refine ⟨trivial, ?_⟩; gi_at_call 78; refine (callsIn_wide.2 HI'.out).mono ?_; rintro e w2 ⟨s2, c2, rfl, hc2, hb2, hob, k1, k2, hb1⟩; have HK3 : Hid (K3 { tmps := #[.pointer (some ⟨p, 1, none⟩), .pointer (some ⟨t, 0, none⟩), .slice none 0 0, .pointer (some ⟨q, 0, none⟩), undef, undef, .pointer (some ⟨p, 1, none⟩), .tuple #[], .pointer (some ⟨p, 1, none⟩), .func (.func 80) #[] #[.pointer (some ⟨WS, 0, none⟩)], undef, undef, undef, undef, undef, undef, undef, undef, undef, undef, undef, undef, undef, undef, undef, .pointer (some ⟨p, 1, none⟩), .pointer (some ⟨p, 1, none⟩), .pointer (some ⟨p, 1, none⟩), .pointer (some ⟨p, 1, none⟩), .slice sp m cap, .slice us k uc, .int .i64 (k : Int), .slice s2 (m - k) c2, .pointer (some ⟨p, 1, none⟩), .pointer (some ⟨p, 1, none⟩), undef], defers := [{ target := .collected D, args := #[] }] } (w2.setCell ⟨p, 1, none⟩ (.slice s2 (m - k) c2))) := key3 s2 c2 w2 hc2 hb2 hob hb1; have k3 := HKT.out w2 hb1; clear hc2 hb2 hob hb1)
      refine wpAnyIn_take (i := 8) (v := ?vd44) rfl rfl (by kernel_rfl) (by kernel_rfl) (by kernel_rfl) (fun _ _ _ h => h) ⟨Or.inl ⟨by rfl, ?hyd44⟩, fun _ => rfl⟩ ?restd44
      case hyd44 => (intro w; go_simp; try with_reducible rfl)
      refine wpAnyIn_take (i := 9) (v := ?vd45) rfl rfl (by kernel_rfl) (by kernel_rfl) (by kernel_rfl) (fun _ _ _ h => h) ⟨Or.inl ⟨by rfl, ?hyd45⟩, fun _ => rfl⟩ ?restd45
      case hyd45 => (intro w; go_simp; try with_reducible rfl)
      refine wpAnyIn_ready (rs := [10]) (by kernel_rfl) (by simp) ?_
      refine AllReadyIn.cons rfl (fun K hK => ?_) AllReadyIn.nil
      go_simp
      refine hK _ _ ?_
      clear hK K
      refine wpAnyIn_done (by kernel_rfl) ?_ _
      exact HK3.out
    refine AllReadyIn.cons rfl (fun K hK => ?_) AllReadyIn.nil
    go_simp
    refine hK _ _ ?_
    clear hK K
    refine wpAnyIn_ready (rs := [0, 7]) (by kernel_rfl) (by simp) ?_
    refine AllReadyIn.cons rfl (fun K hK => ?_) ?_
    · go_simp
      refine hK _ _ ?_
      clear hK K
      refine wpAnyIn_ready (rs := [7]) (by kernel_rfl) (by simp) ?_
      refine AllReadyIn.cons rfl (fun K hK => ?_) AllReadyIn.nil
      gi_wp2_with (refine ⟨trivial, ?_⟩; gi_at_call 78; refine (callsIn_wide.2 HI'.out).mono ?_; rintro e w2 ⟨s2, c2, rfl, hc2, hb2, hob, k1, k2, hb1⟩; have HK3 : Hid (K3 { tmps := #[.pointer (some ⟨p, 1, none⟩), .pointer (some ⟨t, 0, none⟩), .slice none 0 0, .pointer (some ⟨q, 0, none⟩), undef, undef, .pointer (some ⟨p, 1, none⟩), .tuple #[], .pointer (some ⟨p, 1, none⟩), .func (.func 80) #[] #[.pointer (some ⟨WS, 0, none⟩)], undef, undef, undef, undef, undef, undef, undef, undef, undef, undef, undef, undef, undef, undef, undef, .pointer (some ⟨p, 1, none⟩), .pointer (some ⟨p, 1, none⟩), .pointer (some ⟨p, 1, none⟩), .pointer (some ⟨p, 1, none⟩), .slice sp m cap, .slice us k uc, .int .i64 (k : Int), .slice s2 (m - k) c2, .pointer (some ⟨p, 1, none⟩), .pointer (some ⟨p, 1, none⟩), undef], defers := [{ target := .collected D, args := #[] }] } (w2.setCell ⟨p, 1, none⟩ (.slice s2 (m - k) c2))) := key3 s2 c2 w2 hc2 hb2 hob hb1; have k3 := HKT.out w2 hb1; clear hc2 hb2 hob hb1)
      refine wpAnyIn_take (i := 8) (v := ?vd46) rfl rfl (by kernel_rfl) (by kernel_rfl) (by kernel_rfl) (fun _ _ _ h => h) ⟨Or.inl ⟨by rfl, ?hyd46⟩, fun _ => rfl⟩ ?restd46
      case hyd46 => (intro w; go_simp; try with_reducible rfl)
      refine wpAnyIn_take (i := 9) (v := ?vd47) rfl rfl (by kernel_rfl) (by kernel_rfl) (by kernel_rfl) (fun _ _ _ h => h) ⟨Or.inl ⟨by rfl, ?hyd47⟩, fun _ => rfl⟩ ?restd47
      case hyd47 => (intro w; go_simp; try with_reducible rfl)
      refine wpAnyIn_ready (rs := [10]) (by kernel_rfl) (by simp) ?_
      refine AllReadyIn.cons rfl (fun K hK => ?_) AllReadyIn.nil
      go_simp
      refine hK _ _ ?_
      clear hK K
      refine wpAnyIn_done (by kernel_rfl) ?_ _
      exact HK3.out
    refine AllReadyIn.cons rfl (fun K hK => ?_) AllReadyIn.nil
    gi_wp2_with (refine ⟨trivial, ?_⟩; gi_at_call 78; refine (callsIn_wide.2 HI'.out).mono ?_; rintro e w2 ⟨s2, c2, rfl, hc2, hb2, hob, k1, k2, hb1⟩; have HK3 : Hid (K3 { tmps := #[.pointer (some ⟨p, 1, none⟩), .pointer (some ⟨t, 0, none⟩), .slice none 0 0, .pointer (some ⟨q, 0, none⟩), undef, undef, .pointer (some ⟨p, 1, none⟩), .tuple #[], .pointer (some ⟨p, 1, none⟩), .func (.func 80) #[] #[.pointer (some ⟨WS, 0, none⟩)], undef, undef, undef, undef, undef, undef, undef, undef, undef, undef, undef, undef, undef, undef, undef, .pointer (some ⟨p, 1, none⟩), .pointer (some ⟨p, 1, none⟩), .pointer (some ⟨p, 1, none⟩), .pointer (some ⟨p, 1, none⟩), .slice sp m cap, .slice us k uc, .int .i64 (k : Int), .slice s2 (m - k) c2, .pointer (some ⟨p, 1, none⟩), .pointer (some ⟨p, 1, none⟩), undef], defers := [{ target := .collected D, args := #[] }] } (w2.setCell ⟨p, 1, none⟩ (.slice s2 (m - k) c2))) := key3 s2 c2 w2 hc2 hb2 hob hb1; have k3 := HKT.out w2 hb1; clear hc2 hb2 hob hb1)
    refine wpAnyIn_ready (rs := [0]) (by kernel_rfl) (by simp) ?_
    refine AllReadyIn.cons rfl (fun K hK => ?_) AllReadyIn.nil
    go_simp
    refine hK _ _ ?_
    clear hK K
    refine wpAnyIn_take (i := 8) (v := ?vd48) rfl rfl (by kernel_rfl) (by kernel_rfl) (by kernel_rfl) (fun _ _ _ h => h) ⟨Or.inl ⟨by rfl, ?hyd48⟩, fun _ => rfl⟩ ?restd48
    case hyd48 => (intro w; go_simp; try with_reducible rfl)
    refine wpAnyIn_take (i := 9) (v := ?vd49) rfl rfl (by kernel_rfl) (by kernel_rfl) (by kernel_rfl) (fun _ _ _ h => h) ⟨Or.inl ⟨by rfl, ?hyd49⟩, fun _ => rfl⟩ ?restd49
    case hyd49 => (intro w; go_simp; try with_reducible rfl)
    refine wpAnyIn_ready (rs := [10]) (by kernel_rfl) (by simp) ?_
    refine AllReadyIn.cons rfl (fun K hK => ?_) AllReadyIn.nil
    go_simp
    refine hK _ _ ?_
    clear hK K
    refine wpAnyIn_done (by kernel_rfl) ?_ _
    exact HK3.out
  refine wpIn_rangeFunc_ownG rfl (by omega) (gf := 80) (lb := #[.pointer (some ⟨WS, 0, none⟩)]) rfl trivial (enters_of Tryd.func80 (by kernel_rfl) rfl)
    (seq_stops _ (by omega) WS p g m cap sp hsp (by omega) F bd hF0.out HF.out W0 (by omega) (by omega) (fun _ => by omega) b1.cell hlk0 hcs0) Kp.trans (kp_b (by simp; omega)) (Below.refl _ _) (fun _ => rfl)
    (fun pre W => (∃ u, Boxed W q 43 u ∧ W.ownsRow q 3 1 u pre.length (num (pre.map f)) ∧ (u = .slice none 0 0 ↔ pre = [])) ∧ (∀ x ∈ pre, F (x.val + 1) ≤ 0) ∧ Below q Wb W ∧ Boxed W WS 131 (.pointer (some ⟨p, 1, none⟩)))
    (fun c pre W => c = .exit 0 ∧ ∃ pre' x, pre = pre' ++ [x] ∧ 0 < F (x.val + 1) ∧ (∃ u, Boxed W q 43 u ∧ W.ownsRow q 3 1 u pre'.length (num (pre'.map f)) ∧ (u = .slice none 0 0 ↔ pre' = [])) ∧ (∀ x ∈ pre', F (x.val + 1) ≤ 0) ∧ Below q Wb W)
    (ownFrom_of fun s W W' hs hk hB => by
      obtain ⟨⟨u, h1, h2, h3⟩, h4, h5, h6⟩ := hs
      exact ⟨⟨u, hk _ _ _ _ h1, owns_of h2 (fun g hg => by
        rcases h2.2 with ⟨rfl, _⟩ | ⟨g', cap, cur, rfl, _, hh, _⟩
        · cases hg
        · obtain rfl : g' = g := by simpa [Value.ownBlock] using hg
          rw [hh]; exact hk _ _ _ _ hh), h3⟩, h4, h5.trans (hB q (by omega) (by have := h5.size; have := HQ.out; omega)), hk _ _ _ _ h6⟩)
    (fun c => ownFrom_of fun s W W' hs hk hB => by
      obtain ⟨hc, pre', x, hp, hf, ⟨u, h1, h2, h3⟩, h4, h5⟩ := hs
      exact ⟨hc, pre', x, hp, hf, ⟨u, hk _ _ _ _ h1, owns_of h2 (fun g hg => by
        rcases h2.2 with ⟨rfl, _⟩ | ⟨g', cap, cur, rfl, _, hh, _⟩
        · cases hg
        · obtain rfl : g' = g := by simpa [Value.ownBlock] using hg
          rw [hh]; exact hk _ _ _ _ hh), h3⟩, h4, h5.trans (hB q (by omega) (by have := h5.size; have := HQ.out; omega))⟩)
    ⟨⟨_, b0, World.ownsRow_nil _ _ _ _, by simp⟩, by simp, hB0, b1⟩
    (fun x => { tmps := #[.pointer (some ⟨p, 1, none⟩), .pointer (some ⟨t, 0, none⟩), .slice none 0 0, .pointer (some ⟨q, 0, none⟩), .int .i64 ((x.val : Nat) : Int), .int .i64 (F (x.val + 1)), .pointer (some ⟨p, 1, none⟩), .tuple #[], .pointer (some ⟨p, 1, none⟩), .func (.func 80) #[] #[.pointer (some ⟨WS, 0, none⟩)], .int .i64 ((x.val : Nat) : Int), .int .i64 (F (x.val + 1)), undef, undef, undef, undef, undef, undef, undef, undef, undef, undef, undef, undef, undef, undef, undef, undef, undef, undef, undef, undef, undef, undef, undef, undef], defers := [] }) ?assign ?body ?done ?stop
  case assign =>
    intro l x W K hK
    gi_wp2
    exact hK
  case body =>
    rintro l pre x W1 ⟨⟨u, hbu, hrow, hnil⟩, hle, hB1, hbws⟩ hlt
    have hxm : x.val < m := x.isLt
    have hxI : ((x.val : Nat) : Int) < m := by omega
    have hm0 : 0 < m := by omega
    have hsp' := hsp hm0
    subst hsp'
    have cq := hbu.cell
    have ct := (hB1.cell (p := ⟨t, 0, none⟩) htq).trans HBX.out.cell
    have cp := (hB1.cell (p := ⟨p, 1, none⟩) hpl).trans HLK.out
    have cg := (hB1.cell (p := ⟨g, x.val * 2, none⟩) hgl).trans (HCS1.out x)
    by_cases hgt : 0 < F (x.val + 1)
    · have HRes : Hid (∃ u, Boxed W1 q 43 u ∧ W1.ownsRow q 3 1 u pre.length (num (pre.map f)) ∧ (u = .slice none 0 0 ↔ pre = [])) := ⟨u, hbu, hrow, hnil⟩
      have HLE : Hid (∀ x ∈ pre, F (x.val + 1) ≤ 0) := hle
      have HB1 : Hid (Below q Wb W1) := hB1
      clear hbu hrow hnil hle hB1 hbws hlk0 hcs0 key2 hK2 b0 b1 hsz
      gi_wp2
      exact ⟨KeepsFrom.refl _ _, rfl, pre, x, rfl, hgt, HRes.out, HLE.out, HB1.out⟩
    · have hgt' : F (x.val + 1) ≤ 0 := by omega
      obtain ⟨i0, hi, hz0, hz1, hz2⟩ := info_parts' infoW
      have hqW : q ≤ W1.heap.size := by have := hbu.lt; omega
      have HROW : Hid ((W1.alloc (Obj.cells #[.int .i64 (f x)] 3)).drew.ownsRow q 3 1 u pre.length (num (pre.map f))) := hrow.alloc _
      have HCN : Hid (∀ j z, ([.int .i64 (f x)] : List Value)[j]? = some z → (W1.alloc (Obj.cells #[.int .i64 (f x)] 3)).drew.cell? ((⟨W1.heap.size, 0, none⟩ : Addr).add j) = some z) := cell_one_new _ _ _
      have HTW : Hid (q ≤ (W1.alloc (Obj.cells #[.int .i64 (f x)] 3)).drew.heap.size) := by show q ≤ (W1.alloc (Obj.cells #[.int .i64 (f x)] 3)).heap.size; rw [alloc_size]; omega
      have FIN : ∀ (g' cap' : Nat) (w1 : World), w1.ownsRow q 3 1 (.slice (some ⟨g', 0, none⟩) (pre.length + 1) cap') (pre.length + 1) (num (pre.map f) ++ [.int .i64 (f x)]) → (W1.alloc (Obj.cells #[.int .i64 (f x)] 3)).drew.grownBy w1 u.ownBlock →
          w1.cell? ⟨q, 0, none⟩ = some u ∧ w1.frozen? ⟨q, 0, none⟩ = false ∧ ownPostG W0.heap.size (Kp [WS, p, g]) (fun pre W => (∃ u, Boxed W q 43 u ∧ W.ownsRow q 3 1 u pre.length (num (pre.map f)) ∧ (u = .slice none 0 0 ↔ pre = [])) ∧ (∀ x ∈ pre, F (x.val + 1) ≤ 0) ∧ Below q Wb W ∧ Boxed W WS 131 (.pointer (some ⟨p, 1, none⟩))) (fun c pre W => c = .exit 0 ∧ ∃ pre' x, pre = pre' ++ [x] ∧ 0 < F (x.val + 1) ∧ (∃ u, Boxed W q 43 u ∧ W.ownsRow q 3 1 u pre'.length (num (pre'.map f)) ∧ (u = .slice none 0 0 ↔ pre' = [])) ∧ (∀ x ∈ pre', F (x.val + 1) ≤ 0) ∧ Below q Wb W) (pre ++ [x]) W1 Exit.normal { tmps := #[], defers := [] } (w1.setCell ⟨q, 0, none⟩ (.slice (some ⟨g', 0, none⟩) (pre.length + 1) cap')) := by
        intro g' cap' w1 hown' hgrow
        have hgrow' : (W1.alloc (Obj.cells #[.int .i64 (f x)] 3)).grownBy w1 u.ownBlock := ⟨hgrow.os, hgrow.tape, hgrow.output, hgrow.size, hgrow.block⟩
        obtain ⟨hv1, hv2, hr2, hk2, hb2⟩ := hbu.appended (by decide) hrow hqW (Nat.le_refl _) hown' hgrow'
        refine ⟨hv1.cell, hv1.frozen, hk2.from _, fun k hk => ?_, ⟨_, hv2, ?_, by simp⟩, fun y hy => ?_, hB1.trans hb2, ?_⟩
        · simp only [List.mem_cons, List.not_mem_nil, or_false] at hk
          rcases hk with hk | hk | hk <;> subst hk
          · have hne : some _ ≠ u.ownBlock := hbws.not_row (by decide) hrow
            have hws := hbws.lt
            rw [Below.heap_setCell _ _ _ _ (by simp only [ne_eq]; omega), hgrow'.block _ (by rw [alloc_size]; omega) hne]
            exact Below.heap_alloc _ _ _ (by omega)
          · exact hb2.block _ hpl
          · exact hb2.block _ hgl
        · have : num ((pre ++ [x]).map f) = num (pre.map f) ++ [.int .i64 (f x)] := by simp [num]
          rw [this, List.length_append, List.length_singleton]
          exact hr2
        · rcases List.mem_append.1 hy with hy | hy
          · exact hle y hy
          · have : y = x := by simpa using hy
            rw [this]; exact hgt'
        · have hne : some WS ≠ u.ownBlock := hbws.not_row (by decide) hrow
          exact Boxed.other ((hbws.alloc _).kept hgrow' hne) (by omega)
      have ca : ∀ o : Obj, (W1.alloc o).cell? ⟨q, 0, none⟩ = some u := fun o => ((alloc_below W1 o).cell (p := ⟨q, 0, none⟩) hbu.lt).trans cq
      have hplen : pre.length ≤ 1000 := by omega
      clear hbu hrow hnil hle hB1 hbws hlk0 hcs0 key2 hK2 b0 b1 hsz hlt HLK HCS1 HCS2 HBX HC HV HF HFB HR HFF hF0 HM HH HT HBW hB hl
      gi_wp2
      refine region_round (by intro i o ho c; rcases i with _ | _ | _ | _ | _ | _ | _ | _ | _ | _ | _ | _ | i <;> (try (cases ho; exact (fun h => by cases h))); simp at ho) hmx ?_
      refine wpAnyIn_take (i := 5) (v := ?vc1) rfl rfl (by kernel_rfl) (by kernel_rfl) (by kernel_rfl) (fun _ _ _ h => h) ⟨Or.inl ⟨by rfl, ?hyc1⟩, fun _ => rfl⟩ ?restc1
      case hyc1 => (intro w; go_simp; try with_reducible rfl)
      refine wpAnyIn_ready (rs := [0, 1]) (by kernel_rfl) (by simp) ?_
      refine AllReadyIn.cons rfl (fun K hK => ?_) ?_
      · go_simp
        refine hK _ _ ?_
        clear hK K
        refine wpAnyIn_ready (rs := [1]) (by kernel_rfl) (by simp) ?_
        refine AllReadyIn.cons rfl (fun K hK => ?_) AllReadyIn.nil
        go_simp
        refine hK _ _ ?_
        clear hK K
        refine wpAnyIn_take (i := 2) (v := ?vc2) rfl rfl (by kernel_rfl) (by kernel_rfl) (by kernel_rfl) (fun _ _ _ h => h) ⟨Or.inl ⟨by rfl, ?hyc2⟩, fun _ => rfl⟩ ?restc2
        case hyc2 => (intro w; go_simp; try with_reducible rfl)
        refine wpAnyIn_take (i := 3) (v := ?vc3) rfl rfl (by kernel_rfl) (by kernel_rfl) (by kernel_rfl) (fun _ _ _ h => h) ⟨Or.inl ⟨by rfl, ?hyc3⟩, fun _ => rfl⟩ ?restc3
        case hyc3 => (intro w; go_simp; try with_reducible rfl)
        refine wpAnyIn_ready (rs := [4]) (by kernel_rfl) (by simp) ?_
        refine AllReadyIn.cons rfl (fun K hK => ?_) AllReadyIn.nil
        go_simp
        refine hK _ _ ?_
        clear hK K
        refine wpAnyIn_take (i := 6) (v := ?vc4) rfl rfl (by kernel_rfl) (by kernel_rfl) (by kernel_rfl) (fun _ _ _ h => h) ⟨Or.inl ⟨by rfl, ?hyc4⟩, fun _ => rfl⟩ ?restc4
        case hyc4 => (intro w; go_simp; try with_reducible rfl)
        refine wpAnyIn_take (i := 7) (v := ?vc5) rfl rfl (by kernel_rfl) (by kernel_rfl) (by kernel_rfl) (fun _ _ _ h => h) ⟨Or.inl ⟨by rfl, ?hyc5⟩, fun _ => rfl⟩ ?restc5
        case hyc5 => (intro w; go_simp; try with_reducible rfl)
        refine wpAnyIn_ready (rs := [8]) (by kernel_rfl) (by simp) ?_
        refine AllReadyIn.cons rfl (fun K hK => ?_) AllReadyIn.nil
        go_simp
        refine hK _ _ ?_
        clear hK K
        refine wpAnyIn_ready (rs := [9]) (by kernel_rfl) (by simp) ?_
        refine AllReadyIn.cons rfl (fun K hK => ?_) AllReadyIn.nil
        go_simp
        refine hK _ _ ?_
        clear hK K
        refine wpAnyIn_ready (rs := [10]) (by kernel_rfl) (by simp) ?_
        refine AllReadyIn.cons rfl (fun K hK => ?_) AllReadyIn.nil
        refine step_append_in rfl (.tmp 14) (.tmp 23) 43 rfl q 3 i0 (.int .i64 0) 1 8 Tryd.underlying43 hi hz0 hz1 hz2 rfl (by decide) u pre.length (num (pre.map f)) (by simp [Act.eval, Act.put]) HROW.out ⟨W1.heap.size, 0, none⟩ 1 1 [.int .i64 (f x)] (by simp [Act.eval, Act.put]) rfl (HCN.out) (by simp [Value.oneCell']) (by simp only [maxLen]; omega) (by omega) HTW.out ?_; intro v' w1 hown' hgrow _; obtain ⟨g', cap', rfl⟩ := ownsRow_succ hown'; obtain ⟨hc1, hf1, HFN⟩ := FIN g' cap' w1 hown' hgrow; have HF2 : Hid (ownPostG W0.heap.size (Kp [WS, p, g]) (fun pre W => (∃ u, Boxed W q 43 u ∧ W.ownsRow q 3 1 u pre.length (num (pre.map f)) ∧ (u = .slice none 0 0 ↔ pre = [])) ∧ (∀ x ∈ pre, F (x.val + 1) ≤ 0) ∧ Below q Wb W ∧ Boxed W WS 131 (.pointer (some ⟨p, 1, none⟩))) (fun c pre W => c = .exit 0 ∧ ∃ pre' x, pre = pre' ++ [x] ∧ 0 < F (x.val + 1) ∧ (∃ u, Boxed W q 43 u ∧ W.ownsRow q 3 1 u pre'.length (num (pre'.map f)) ∧ (u = .slice none 0 0 ↔ pre' = [])) ∧ (∀ x ∈ pre', F (x.val + 1) ≤ 0) ∧ Below q Wb W) (pre ++ [x]) W1 Exit.normal { tmps := #[], defers := [] } (w1.setCell ⟨q, 0, none⟩ (.slice (some ⟨g', 0, none⟩) (pre.length + 1) cap'))) := HFN; clear hown' hgrow HFN
        refine hK _ _ ?_
        clear hK K
        refine wpAnyIn_ready (rs := [11]) (by kernel_rfl) (by simp) ?_
        refine AllReadyIn.cons rfl (fun K hK => ?_) AllReadyIn.nil
        go_simp
        refine hK _ _ ?_
        clear hK K
        refine wpAnyIn_done (by kernel_rfl) ?_ _
        exact HF2.out
      refine AllReadyIn.cons rfl (fun K hK => ?_) AllReadyIn.nil
      go_simp
      refine hK _ _ ?_
      clear hK K
      refine wpAnyIn_take (i := 2) (v := ?vc6) rfl rfl (by kernel_rfl) (by kernel_rfl) (by kernel_rfl) (fun _ _ _ h => h) ⟨Or.inl ⟨by rfl, ?hyc6⟩, fun _ => rfl⟩ ?restc6
      case hyc6 => (intro w; go_simp; try with_reducible rfl)
      refine wpAnyIn_take (i := 3) (v := ?vc7) rfl rfl (by kernel_rfl) (by kernel_rfl) (by kernel_rfl) (fun _ _ _ h => h) ⟨Or.inl ⟨by rfl, ?hyc7⟩, fun _ => rfl⟩ ?restc7
      case hyc7 => (intro w; go_simp; try with_reducible rfl)
      refine wpAnyIn_ready (rs := [0, 4]) (by kernel_rfl) (by simp) ?_
      refine AllReadyIn.cons rfl (fun K hK => ?_) ?_
      · go_simp
        refine hK _ _ ?_
        clear hK K
        refine wpAnyIn_ready (rs := [4]) (by kernel_rfl) (by simp) ?_
        refine AllReadyIn.cons rfl (fun K hK => ?_) AllReadyIn.nil
        go_simp
        refine hK _ _ ?_
        clear hK K
        refine wpAnyIn_take (i := 6) (v := ?vc8) rfl rfl (by kernel_rfl) (by kernel_rfl) (by kernel_rfl) (fun _ _ _ h => h) ⟨Or.inl ⟨by rfl, ?hyc8⟩, fun _ => rfl⟩ ?restc8
        case hyc8 => (intro w; go_simp; try with_reducible rfl)
        refine wpAnyIn_take (i := 7) (v := ?vc9) rfl rfl (by kernel_rfl) (by kernel_rfl) (by kernel_rfl) (fun _ _ _ h => h) ⟨Or.inl ⟨by rfl, ?hyc9⟩, fun _ => rfl⟩ ?restc9
        case hyc9 => (intro w; go_simp; try with_reducible rfl)
        refine wpAnyIn_ready (rs := [8]) (by kernel_rfl) (by simp) ?_
        refine AllReadyIn.cons rfl (fun K hK => ?_) AllReadyIn.nil
        go_simp
        refine hK _ _ ?_
        clear hK K
        refine wpAnyIn_ready (rs := [9]) (by kernel_rfl) (by simp) ?_
        refine AllReadyIn.cons rfl (fun K hK => ?_) AllReadyIn.nil
        go_simp
        refine hK _ _ ?_
        clear hK K
        refine wpAnyIn_ready (rs := [10]) (by kernel_rfl) (by simp) ?_
        refine AllReadyIn.cons rfl (fun K hK => ?_) AllReadyIn.nil
        refine step_append_in rfl (.tmp 14) (.tmp 23) 43 rfl q 3 i0 (.int .i64 0) 1 8 Tryd.underlying43 hi hz0 hz1 hz2 rfl (by decide) u pre.length (num (pre.map f)) (by simp [Act.eval, Act.put]) HROW.out ⟨W1.heap.size, 0, none⟩ 1 1 [.int .i64 (f x)] (by simp [Act.eval, Act.put]) rfl (HCN.out) (by simp [Value.oneCell']) (by simp only [maxLen]; omega) (by omega) HTW.out ?_; intro v' w1 hown' hgrow _; obtain ⟨g', cap', rfl⟩ := ownsRow_succ hown'; obtain ⟨hc1, hf1, HFN⟩ := FIN g' cap' w1 hown' hgrow; have HF2 : Hid (ownPostG W0.heap.size (Kp [WS, p, g]) (fun pre W => (∃ u, Boxed W q 43 u ∧ W.ownsRow q 3 1 u pre.length (num (pre.map f)) ∧ (u = .slice none 0 0 ↔ pre = [])) ∧ (∀ x ∈ pre, F (x.val + 1) ≤ 0) ∧ Below q Wb W ∧ Boxed W WS 131 (.pointer (some ⟨p, 1, none⟩))) (fun c pre W => c = .exit 0 ∧ ∃ pre' x, pre = pre' ++ [x] ∧ 0 < F (x.val + 1) ∧ (∃ u, Boxed W q 43 u ∧ W.ownsRow q 3 1 u pre'.length (num (pre'.map f)) ∧ (u = .slice none 0 0 ↔ pre' = [])) ∧ (∀ x ∈ pre', F (x.val + 1) ≤ 0) ∧ Below q Wb W) (pre ++ [x]) W1 Exit.normal { tmps := #[], defers := [] } (w1.setCell ⟨q, 0, none⟩ (.slice (some ⟨g', 0, none⟩) (pre.length + 1) cap'))) := HFN; clear hown' hgrow HFN
        refine hK _ _ ?_
        clear hK K
        refine wpAnyIn_ready (rs := [11]) (by kernel_rfl) (by simp) ?_
        refine AllReadyIn.cons rfl (fun K hK => ?_) AllReadyIn.nil
        go_simp
        refine hK _ _ ?_
        clear hK K
        refine wpAnyIn_done (by kernel_rfl) ?_ _
        exact HF2.out
      refine AllReadyIn.cons rfl (fun K hK => ?_) AllReadyIn.nil
      go_simp
      refine hK _ _ ?_
      clear hK K
      refine wpAnyIn_take (i := 6) (v := ?vc10) rfl rfl (by kernel_rfl) (by kernel_rfl) (by kernel_rfl) (fun _ _ _ h => h) ⟨Or.inl ⟨by rfl, ?hyc10⟩, fun _ => rfl⟩ ?restc10
      case hyc10 => (intro w; go_simp; try with_reducible rfl)
      refine wpAnyIn_take (i := 7) (v := ?vc11) rfl rfl (by kernel_rfl) (by kernel_rfl) (by kernel_rfl) (fun _ _ _ h => h) ⟨Or.inl ⟨by rfl, ?hyc11⟩, fun _ => rfl⟩ ?restc11
      case hyc11 => (intro w; go_simp; try with_reducible rfl)
      refine wpAnyIn_ready (rs := [0, 8]) (by kernel_rfl) (by simp) ?_
      refine AllReadyIn.cons rfl (fun K hK => ?_) ?_
      · go_simp
        refine hK _ _ ?_
        clear hK K
        refine wpAnyIn_ready (rs := [8]) (by kernel_rfl) (by simp) ?_
        refine AllReadyIn.cons rfl (fun K hK => ?_) AllReadyIn.nil
        go_simp
        refine hK _ _ ?_
        clear hK K
        refine wpAnyIn_ready (rs := [9]) (by kernel_rfl) (by simp) ?_
        refine AllReadyIn.cons rfl (fun K hK => ?_) AllReadyIn.nil
        go_simp
        refine hK _ _ ?_
        clear hK K
        refine wpAnyIn_ready (rs := [10]) (by kernel_rfl) (by simp) ?_
        refine AllReadyIn.cons rfl (fun K hK => ?_) AllReadyIn.nil
        refine step_append_in rfl (.tmp 14) (.tmp 23) 43 rfl q 3 i0 (.int .i64 0) 1 8 Tryd.underlying43 hi hz0 hz1 hz2 rfl (by decide) u pre.length (num (pre.map f)) (by simp [Act.eval, Act.put]) HROW.out ⟨W1.heap.size, 0, none⟩ 1 1 [.int .i64 (f x)] (by simp [Act.eval, Act.put]) rfl (HCN.out) (by simp [Value.oneCell']) (by simp only [maxLen]; omega) (by omega) HTW.out ?_; intro v' w1 hown' hgrow _; obtain ⟨g', cap', rfl⟩ := ownsRow_succ hown'; obtain ⟨hc1, hf1, HFN⟩ := FIN g' cap' w1 hown' hgrow; have HF2 : Hid (ownPostG W0.heap.size (Kp [WS, p, g]) (fun pre W => (∃ u, Boxed W q 43 u ∧ W.ownsRow q 3 1 u pre.length (num (pre.map f)) ∧ (u = .slice none 0 0 ↔ pre = [])) ∧ (∀ x ∈ pre, F (x.val + 1) ≤ 0) ∧ Below q Wb W ∧ Boxed W WS 131 (.pointer (some ⟨p, 1, none⟩))) (fun c pre W => c = .exit 0 ∧ ∃ pre' x, pre = pre' ++ [x] ∧ 0 < F (x.val + 1) ∧ (∃ u, Boxed W q 43 u ∧ W.ownsRow q 3 1 u pre'.length (num (pre'.map f)) ∧ (u = .slice none 0 0 ↔ pre' = [])) ∧ (∀ x ∈ pre', F (x.val + 1) ≤ 0) ∧ Below q Wb W) (pre ++ [x]) W1 Exit.normal { tmps := #[], defers := [] } (w1.setCell ⟨q, 0, none⟩ (.slice (some ⟨g', 0, none⟩) (pre.length + 1) cap'))) := HFN; clear hown' hgrow HFN
        refine hK _ _ ?_
        clear hK K
        refine wpAnyIn_ready (rs := [11]) (by kernel_rfl) (by simp) ?_
        refine AllReadyIn.cons rfl (fun K hK => ?_) AllReadyIn.nil
        go_simp
        refine hK _ _ ?_
        clear hK K
        refine wpAnyIn_done (by kernel_rfl) ?_ _
        exact HF2.out
      refine AllReadyIn.cons rfl (fun K hK => ?_) AllReadyIn.nil
      go_simp
      refine hK _ _ ?_
      clear hK K
      refine wpAnyIn_ready (rs := [0, 9]) (by kernel_rfl) (by simp) ?_
      refine AllReadyIn.cons rfl (fun K hK => ?_) ?_
      · go_simp
        refine hK _ _ ?_
        clear hK K
        refine wpAnyIn_ready (rs := [9]) (by kernel_rfl) (by simp) ?_
        refine AllReadyIn.cons rfl (fun K hK => ?_) AllReadyIn.nil
        go_simp
        refine hK _ _ ?_
        clear hK K
        refine wpAnyIn_ready (rs := [10]) (by kernel_rfl) (by simp) ?_
        refine AllReadyIn.cons rfl (fun K hK => ?_) AllReadyIn.nil
        refine step_append_in rfl (.tmp 14) (.tmp 23) 43 rfl q 3 i0 (.int .i64 0) 1 8 Tryd.underlying43 hi hz0 hz1 hz2 rfl (by decide) u pre.length (num (pre.map f)) (by simp [Act.eval, Act.put]) HROW.out ⟨W1.heap.size, 0, none⟩ 1 1 [.int .i64 (f x)] (by simp [Act.eval, Act.put]) rfl (HCN.out) (by simp [Value.oneCell']) (by simp only [maxLen]; omega) (by omega) HTW.out ?_; intro v' w1 hown' hgrow _; obtain ⟨g', cap', rfl⟩ := ownsRow_succ hown'; obtain ⟨hc1, hf1, HFN⟩ := FIN g' cap' w1 hown' hgrow; have HF2 : Hid (ownPostG W0.heap.size (Kp [WS, p, g]) (fun pre W => (∃ u, Boxed W q 43 u ∧ W.ownsRow q 3 1 u pre.length (num (pre.map f)) ∧ (u = .slice none 0 0 ↔ pre = [])) ∧ (∀ x ∈ pre, F (x.val + 1) ≤ 0) ∧ Below q Wb W ∧ Boxed W WS 131 (.pointer (some ⟨p, 1, none⟩))) (fun c pre W => c = .exit 0 ∧ ∃ pre' x, pre = pre' ++ [x] ∧ 0 < F (x.val + 1) ∧ (∃ u, Boxed W q 43 u ∧ W.ownsRow q 3 1 u pre'.length (num (pre'.map f)) ∧ (u = .slice none 0 0 ↔ pre' = [])) ∧ (∀ x ∈ pre', F (x.val + 1) ≤ 0) ∧ Below q Wb W) (pre ++ [x]) W1 Exit.normal { tmps := #[], defers := [] } (w1.setCell ⟨q, 0, none⟩ (.slice (some ⟨g', 0, none⟩) (pre.length + 1) cap'))) := HFN; clear hown' hgrow HFN
        refine hK _ _ ?_
        clear hK K
        refine wpAnyIn_ready (rs := [11]) (by kernel_rfl) (by simp) ?_
        refine AllReadyIn.cons rfl (fun K hK => ?_) AllReadyIn.nil
        go_simp
        refine hK _ _ ?_
        clear hK K
        refine wpAnyIn_done (by kernel_rfl) ?_ _
        exact HF2.out
      refine AllReadyIn.cons rfl (fun K hK => ?_) AllReadyIn.nil
      go_simp
      refine hK _ _ ?_
      clear hK K
      refine wpAnyIn_ready (rs := [0]) (by kernel_rfl) (by simp) ?_
      refine AllReadyIn.cons rfl (fun K hK => ?_) AllReadyIn.nil
      go_simp
      refine hK _ _ ?_
      clear hK K
      refine wpAnyIn_ready (rs := [10]) (by kernel_rfl) (by simp) ?_
      refine AllReadyIn.cons rfl (fun K hK => ?_) AllReadyIn.nil
      refine step_append_in rfl (.tmp 14) (.tmp 23) 43 rfl q 3 i0 (.int .i64 0) 1 8 Tryd.underlying43 hi hz0 hz1 hz2 rfl (by decide) u pre.length (num (pre.map f)) (by simp [Act.eval, Act.put]) HROW.out ⟨W1.heap.size, 0, none⟩ 1 1 [.int .i64 (f x)] (by simp [Act.eval, Act.put]) rfl (HCN.out) (by simp [Value.oneCell']) (by simp only [maxLen]; omega) (by omega) HTW.out ?_; intro v' w1 hown' hgrow _; obtain ⟨g', cap', rfl⟩ := ownsRow_succ hown'; obtain ⟨hc1, hf1, HFN⟩ := FIN g' cap' w1 hown' hgrow; have HF2 : Hid (ownPostG W0.heap.size (Kp [WS, p, g]) (fun pre W => (∃ u, Boxed W q 43 u ∧ W.ownsRow q 3 1 u pre.length (num (pre.map f)) ∧ (u = .slice none 0 0 ↔ pre = [])) ∧ (∀ x ∈ pre, F (x.val + 1) ≤ 0) ∧ Below q Wb W ∧ Boxed W WS 131 (.pointer (some ⟨p, 1, none⟩))) (fun c pre W => c = .exit 0 ∧ ∃ pre' x, pre = pre' ++ [x] ∧ 0 < F (x.val + 1) ∧ (∃ u, Boxed W q 43 u ∧ W.ownsRow q 3 1 u pre'.length (num (pre'.map f)) ∧ (u = .slice none 0 0 ↔ pre' = [])) ∧ (∀ x ∈ pre', F (x.val + 1) ≤ 0) ∧ Below q Wb W) (pre ++ [x]) W1 Exit.normal { tmps := #[], defers := [] } (w1.setCell ⟨q, 0, none⟩ (.slice (some ⟨g', 0, none⟩) (pre.length + 1) cap'))) := HFN; clear hown' hgrow HFN
      refine hK _ _ ?_
      clear hK K
      refine wpAnyIn_ready (rs := [11]) (by kernel_rfl) (by simp) ?_
      refine AllReadyIn.cons rfl (fun K hK => ?_) AllReadyIn.nil
      go_simp
      refine hK _ _ ?_
      clear hK K
      refine wpAnyIn_done (by kernel_rfl) ?_ _
      exact HF2.out
  case done =>
    rintro D ys' W1 hD rfl ⟨⟨u, hbu, hrow, hnil⟩, hle, hB1, _⟩ hK
    have e : (List.finRange m).take m = List.finRange m := List.take_of_length_le (by simp)
    have hl0 : (List.finRange m).length = m := by simp
    rw [hl0] at hrow
    refine key2 m D W1 (Nat.le_refl _) (fun i hi => hle ⟨i, hi⟩ (List.mem_finRange _)) (fun h => absurd h (Nat.lt_irrefl _)) ⟨u, hbu, by rw [e]; exact hrow, hnil.trans ⟨fun h => by rw [h] at hl0; simpa using hl0.symm, fun h => by subst h; rfl⟩⟩ hB1 hK (by omega)
  case stop =>
    rintro D c pre W1 hD hpre ⟨rfl, pre', x, rfl, hx, ⟨u, hbu, hrow, hnil⟩, hle, hB1⟩ hK
    have e := pre_snoc hpre
    have hxm : x.val < m := x.isLt
    have hle' : ∀ i, i < x.val → F (i + 1) ≤ 0 := fun i hi => hle ⟨i, by omega⟩ (by rw [e]; exact (mem_take_fin _).2 hi)
    have hpl' : pre'.length = x.val := by rw [e, fin_len (by omega)]
    rw [hpl'] at hrow
    have fin := key2 x.val D W1 (by omega) hle' (fun _ => hx) ⟨u, hbu, by rw [← e]; exact hrow, hnil.trans ⟨fun h => by rw [h] at hpl'; exact hpl'.symm, fun h => List.eq_nil_of_length_eq_zero (by omega)⟩⟩ hB1 hK (by omega)
    clear hlk0 hcs0 hsp b0 b1 hsz key2 hle hle' hK hK2 hbu hrow hnil hB1
    gi_wp2
    exact fin
end Go.Proofs.YtciafjmljmeimaaDoor
