/- What 'Owners' answers: whose each block is, in memory of its own. -/
import Derived.Test.YteicnekoogmmmaaGreatDoorPCount
import Derived.Deep.RegionLaw
namespace Go.Proofs.YteicnekoogmmmaaGreatDoor.Pl
open Go Go.RowKit
set_option maxRecDepth 100000
set_option linter.unusedVariables false
/-- append to a row of one's own, as one step of a region that draws its order -/
theorem step_append_own {P : Program} {ops : Array Oper} {o : Oper} {a : Act} {w : World} {K : Act → World → Prop} {Q : Exit → Act → World → Prop} {X : Prop} (hgd : o.guard = none) (s x : Operand) (t : TypeId)
    (ho : o.op = .call { callee := .builtin .append, args := #[s, x], argTypes := #[t, t] })
    (base : Nat) (e : TypeId) (i : TypeInfo) (z : Value) (size bytes : Nat) (ht : P.underlying t = some (.slice e)) (hi : P.info? e = some i) (hz : i.zero = some z)
    (hsize : i.size = size) (hby : i.bytes = bytes) (hzs : z.cells.size = size) (hsz : 0 < size)
    (v : Value) (n : Nat) (xs : List Value) (hs : a.eval s = v) (hown : w.ownsRow base e size v n xs)
    (ad : Addr) (m c : Nat) (news : List Value) (hx : a.eval x = .slice (some ad) m c) (hl : news.length = m * size) (hnews : ∀ j u, news[j]? = some u → w.cell? (ad.add j) = some u) (h1 : ∀ u ∈ news, u.oneCell' = true)
    (h63 : n + m ≤ maxLen) (hbytes : (n + m) * bytes ≤ 140737488355328) (hbase : base ≤ w.heap.size)
    (h : ∀ v' w', w'.ownsRow base e size v' (n + m) (xs ++ news) → w.grownBy w' v.ownBlock → (v' = .slice none 0 0 ↔ v = .slice none 0 0 ∧ m = 0) → K (a.put o.dst v') w') :
    if Region.wanted o (yielded ops a.tmps) = true then Oper.wp P o a w K Q else X := by
  have hw : Region.wanted o (yielded ops a.tmps) = true := by simp [Region.wanted, hgd]
  rw [if_pos hw]
  obtain ⟨v', w', hr, h2, h3, h4⟩ := run_append_own (P := P) w base t o.type e i z size bytes ht hi hz hsize hby hzs hsz v n xs hown ad m c news hl hnews h1 h63 hbytes hbase
  unfold Oper.wp execOp
  simp only [ho, resolve, invoke, builtin, Sem.run_bind, Sem.run_pure, Result.andThen_ok, List.map_toArray, List.map_cons, List.map_nil, hs, hx, hr]
  exact h v' w' h2 h3 h4
theorem own_form {w : World} {B : Nat} {v : Value} {n : Nat} {xs : List Value} {t : TypeId} {s : Nat} (h : w.ownsRow B t s v n xs) : ∃ sp cap, v = .slice sp n cap ∧ (0 < n → ∃ g, sp = some ⟨g, 0, none⟩) ∧ (sp = none ∨ ∃ g, sp = some ⟨g, 0, none⟩ ∧ w.heap[g]?.isSome ∧ ∃ cur, w.heap[g]? = some (.cells cur t (0, 0))) ∧ n ≤ maxLen := by
  rcases h.2 with ⟨rfl, rfl⟩ | ⟨g, cap, cur, rfl, _, hh, hc, hm, _⟩
  · exact ⟨none, 0, rfl, by omega, Or.inl rfl, by simp⟩
  · exact ⟨some ⟨g, 0, none⟩, cap, rfl, fun _ => ⟨g, rfl⟩, Or.inr ⟨g, rfl, by simp [hh], cur, hh⟩, by omega⟩
theorem block_ne {w : World} {B g : Nat} {v : Value} {n : Nat} {xs : List Value} {t t' : TypeId} {s : Nat} {cs : Array Value} {f : Nat × Nat} (h : w.ownsRow B t s v n xs) (hv : v.ownBlock = some g) {K : Nat} (hK : w.heap[K]? = some (.cells cs t' f)) (ht : t ≠ t') : g ≠ K := by
  rintro rfl
  rcases h.2 with ⟨rfl, _⟩ | ⟨g', c, cur, rfl, _, hh, _⟩
  · simp [Value.ownBlock] at hv
  · have : g' = g := by simpa [Value.ownBlock] using hv
    subst this
    rw [hK] at hh
    simp only [Option.some.injEq, Obj.cells.injEq] at hh
    exact ht hh.2.1.symm
theorem own_ne {w : World} {B B' g H : Nat} {v v' : Value} {n n' : Nat} {xs xs' : List Value} {t t' : TypeId} {s s' : Nat} (h : w.ownsRow B t s v n xs) (hv : v.ownBlock = some g) (h' : w.ownsRow B' t' s' v' n' xs') (hv' : v'.ownBlock = some H) (ht : t ≠ t') : g ≠ H := by
  rcases h'.2 with ⟨rfl, _⟩ | ⟨g', c, cur, rfl, _, hh, _⟩
  · simp [Value.ownBlock] at hv'
  · have : g' = H := by simpa [Value.ownBlock] using hv'
    subst this
    exact block_ne h hv hh ht
theorem one_ne {w : World} {B b g : Nat} {t t' : TypeId} {s n : Nat} {u v : Value} {xs : List Value} (h : One w b t' u) (ho : w.ownsRow B t s v n xs) (hv : v.ownBlock = some g) (ht : t ≠ t') : g ≠ b := block_ne ho hv h ht
theorem cell1 (w : World) (x : Value) (t : TypeId) : ∀ j u, ([x] : List Value)[j]? = some u → (w.alloc (.cells #[x] t)).cell? ((⟨w.heap.size, 0, none⟩ : Addr).add j) = some u := by
  intro j u hj
  have hadd : (⟨w.heap.size, 0, none⟩ : Addr).add j = ⟨w.heap.size, 0 + j, none⟩ := by unfold Addr.add; split <;> simp_all
  rw [hadd, Nat.zero_add, cell_of (alloc_at w _)]
  rcases j with _ | j
  · exact hj
  · simp at hj
set_option maxHeartbeats 1000000 in
theorem cOwn_any {w : World} {B p i b1 m : Nat} {z : Int} {v : Value} {xs : List Value} (hc : w.cell? ⟨p, 1 + i, none⟩ = some (.int .u32 z)) (h1 : One w b1 53 v) (ho : w.ownsRow B 23 1 v m xs) (hm : m ≤ 1000) (hB : B ≤ w.heap.size) :
    Calls Tryz.prog 86 #[.int .i64 i, .pointer (some ⟨p, 1 + i, none⟩), .pointer (some ⟨b1, 0, none⟩)] w fun e w' => e = .returned (.bool true) ∧ ∃ v', One w' b1 53 v' ∧ w'.ownsRow B 23 1 v' (m + 1) (xs ++ [.int .u32 z]) ∧ Buts (b1 :: v.ownBlock.toList) w w' := by
  have d1 := h1.cell
  have f1 := h1.free
  have hb1 := h1.lt
  obtain ⟨i', hi, he⟩ := Option.map_eq_some_iff.1 infoW
  have e1 : i'.zero = some (.int .u32 0) := by simpa using congrArg Prod.fst he
  have e2 : i'.size = 1 := by simpa using congrArg (fun x => x.2.1) he
  have e3 : i'.bytes = 4 := by simpa using congrArg (fun x => x.2.2) he
  have hW : Below w.heap.size w (w.alloc (.cells #[.int .u32 z] 23)).drew := ((Below.refl _ _).alloc (Nat.le_refl _) _).drew
  have hne : ∀ g, v.ownBlock = some g → g ≠ b1 := fun g hg => one_ne h1 ho hg (by decide)
  clear he
  go_enter Tryz.func86, Tryz.ntmps86
  go_wp2
  go_region_law (refine step_append_own rfl (.tmp 6) (.tmp 10) 53 rfl B 23 i' _ 1 4 Tryz.underlying53 hi e1 e2 e3 rfl (by omega) v m xs rfl (owns_of ho fun g hg => hW.block g (ho.lt g hg).2) _ 1 1 [.int .u32 z] rfl rfl (cell1 w _ _) (by simp [Value.oneCell']) (by simp only [maxLen]; omega) (by omega) (Nat.le_trans hB hW.size) ?_; intro v' w' ho' hg hvn; obtain ⟨g', cap', rfl, hcp⟩ := owns_spot ho' (by omega); have h1' : One w' b1 53 v := (hg.block b1 (Nat.lt_of_lt_of_le hb1 hW.size) (fun e => hne b1 e.symm rfl)).trans ((hW.block b1 hb1).trans h1); have k1 := h1'.cell; have k2 := h1'.free)
  all_goals
    go_wp2
    go_ret
    refine ⟨rfl, _, h1'.set _, owns_buts ho' (Buts.cell _ _ _ _) (fun g hg' => ?_), ((Buts.of hW).trans ((Buts.grown hg).mono (fun x hx => List.mem_cons_of_mem _ hx))).trans ((Buts.cell _ _ _ _).mono (by simp))⟩
    simpa using one_ne h1' ho' hg' (by decide)
theorem wrd_snoc (l : List Int) (z : Int) : wrd l ++ [.int .u32 z] = wrd (l ++ [z]) := by simp [wrd]
theorem owners_any {w : World} {p n : Nat} {zs : List Int} (h : Pool w p n zs) :
    Calls Tryz.prog 60 #[.pointer (some ⟨p, 0, none⟩)] w fun e w' => ∃ g cap, e = .returned (.slice (some ⟨g, 0, none⟩) n cap) ∧ w'.ownsRow w.heap.size 23 1 (.slice (some ⟨g, 0, none⟩) n cap) n (wrd zs) ∧ Below w.heap.size w w' := by
  have hb := alloc_below w (.cells #[.slice none 0 0] 53)
  have o1 := One.new w 53 (.slice none 0 0)
  have hP := h.below hb
  have hz := h.len
  have hn := h.hi
  have hlo := h.lo
  have hlt := h.lt
  have HC : Hid (Calls Tryz.prog 79 #[.pointer (some ⟨p, 0, none⟩), .func (.func 86) #[] #[.pointer (some ⟨w.heap.size, 0, none⟩)]] (w.alloc (.cells #[.slice none 0 0] 53)) fun e w' => e = .returned (.tuple #[]) ∧ ∃ g cap, One w' w.heap.size 53 (.slice (some ⟨g, 0, none⟩) n cap) ∧ w'.ownsRow w.heap.size 23 1 (.slice (some ⟨g, 0, none⟩) n cap) n (wrd zs) ∧ Below w.heap.size w w') := by
    generalize w.alloc (.cells #[.slice none 0 0] 53) = w0 at *
    refine (each_own (w := w0) (p := p) (n := n) _ (fun j wx => ∃ v, One wx w.heap.size 53 v ∧ wx.ownsRow w.heap.size 23 1 v j (wrd (zs.take j)) ∧ Below w.heap.size w wx) hlo hn hP.many ⟨_, o1, World.ownsRow_nil _ _ _ _, hb⟩ ?_).mono ?_
    · rintro j wx hj ⟨v, ho, hr, hbx⟩
      refine (cOwn_any (h.below hbx |>.cell j hj) ho hr (by omega) hbx.size).mono ?_
      rintro e w' ⟨he, v', ho', hr', hb'⟩
      rw [wrd_snoc, ← take_snoc zs j (by omega)] at hr'
      refine ⟨he, v', ho', hr', hbx.trans (hb'.below (fun x hx => ?_) hbx.size)⟩
      rcases List.mem_cons.1 hx with rfl | hx
      · exact Nat.le_refl _
      · exact (hr.lt x (by simpa using hx)).1
    · rintro e w' ⟨rfl, v, ho, hr, hbx⟩
      rw [List.take_of_length_le (by omega)] at hr
      obtain ⟨g, cap, rfl, -⟩ := owns_spot hr (by omega)
      exact ⟨rfl, g, cap, ho, hr, hbx⟩
  clear hb o1 hP h
  go_enter Tryz.func60, Tryz.ntmps60
  go_wp2_with (go_at_call 79; refine HC.out.mono ?_; rintro e w4 ⟨rfl, g, cap, o2, hr, hB⟩; have d2 := o2.cell)
  go_ret
  exact ⟨_, _, rfl, hr, hB⟩
theorem owners_nil {w : World} :
    Calls Tryz.prog 60 #[.pointer none] w fun e w' => e = .returned (.slice none 0 0) ∧ Below w.heap.size w w' := by
  have hb := alloc_below w (.cells #[.slice none 0 0] 53)
  go_enter Tryz.func60, Tryz.ntmps60
  go_wp2_with (go_at_call 79; refine (each_nil _).mono ?_; rintro e w4 ⟨rfl, rfl⟩)
  go_ret
  exact ⟨rfl, hb⟩
theorem owners_zero {w : World} {p : Nat} (h0 : w.cell? ⟨p, 0, none⟩ = some (.int .i64 0)) (hp : p < w.heap.size) :
    Calls Tryz.prog 60 #[.pointer (some ⟨p, 0, none⟩)] w fun e w' => e = .returned (.slice none 0 0) ∧ Below w.heap.size w w' := by
  have hb := alloc_below w (.cells #[.slice none 0 0] 53)
  have h1 := (hb.cell (p := ⟨p, 0, none⟩) hp).trans h0
  go_enter Tryz.func60, Tryz.ntmps60
  go_wp2_with (go_at_call 79; refine (each_zero _ h1).mono ?_; rintro e w4 ⟨rfl, rfl⟩)
  go_ret
  exact ⟨rfl, hb⟩
end Go.Proofs.YteicnekoogmmmaaGreatDoor.Pl
