/- A chain: one wakes later, one is taken out; all are told. -/
import Derived.Test.YtciafjmljmeimaaDoorDFind
namespace Go.Proofs.YtciafjmljmeimaaDoor
open Go Go.RowKit
set_option maxRecDepth 100000
set_option linter.unusedVariables false
set_option maxHeartbeats 1000000 in
theorem shift_any {B : Nat} {w : World} {p : Nat} {v : Value} {ds : List (Int × Int)} (h : Ch B w p v ds) (k : Nat) (d : Int) (hw : k < ds.length → IntKind.i64.wrap ((ds.getD k (0, 0)).2 + d) = (ds.getD k (0, 0)).2 + d) :
    Calls Tryd.prog 77 #[.pointer (some ⟨p, 1, none⟩), .int .i64 (k : Int), .int .i64 d] w fun e w' => e = .returned (.tuple #[]) ∧ Ch B w' p v (shAt k d ds) ∧ Buts v.ownBlock.toList w w' := by
  by_cases hk : k < ds.length
  · have HW := hw hk
    obtain ⟨g, cap, rfl, hc1, hc2⟩ := h.own.spot (by omega)
    have HR : Hid (∀ z, Ch B (w.setCell ⟨g, k * 2 + 1, none⟩ (.int .i64 z)) p (.slice (some ⟨g, 0, none⟩) ds.length cap) (ds.set k ((ds.getD k (0, 0)).1, z))) := fun z => by
      refine ⟨?_, h.own.set k hk z, by rw [List.length_set]; exact h.len, h.low⟩
      rw [Below.heap_setCell _ _ _ _ (h.ne (g := g) rfl)]
      exact h.head
    have c1 := h.lnk
    have c2 := (h.own.cells rfl k hk).2
    have c3 := h.own.free (k * 2 + 1)
    have HE : Hid (shAt k d ds = ds.set k ((ds.getD k (0, 0)).1, (ds.getD k (0, 0)).2 + d)) := shAt_set hk
    have HL := h.len
    obtain ⟨n, hn⟩ : ∃ n, ds.length = n := ⟨_, rfl⟩
    rw [hn] at c1 hk HR HL
    generalize hb : (ds.getD k (0, 0)).2 = b at c2 HW HE
    have hkI : (k : Int) < n := by omega
    clear h hw
    go_enter Tryd.func77, Tryd.ntmps77
    go_wp2
    go_end0
    rw [HE.out, hn]
    refine ⟨rfl, HR.out _, ?_⟩
    exact (Buts.cell _ _ _ _).mono (by simp [Value.ownBlock])
  · obtain ⟨sp, cap, rfl, hc1, hc2, _⟩ := h.own.form
    have c1 := h.lnk
    have HH : Hid (Ch B w p (.slice sp ds.length cap) ds) := h
    have HE : Hid (shAt k d ds = ds) := shAt_no (by omega)
    have hkI : ¬ ((k : Int) < ds.length) := by omega
    clear h hw
    go_enter Tryd.func77, Tryd.ntmps77
    go_wp2
    go_end0
    rw [HE.out]
    exact ⟨rfl, HH.out, Buts.refl _ _⟩
set_option maxHeartbeats 1000000 in
/-- one is taken out, and leaves its ticks to the next one -/
theorem removeAt_any {B : Nat} {w : World} {p : Nat} {v : Value} {xs : List (Int × Int)} (h : Ch B w p v (dl 0 xs)) (hb : Bnd xs) (k : Nat) (hk : k < xs.length) :
    Calls Tryd.prog 55 #[.pointer (some ⟨p, 1, none⟩), .int .i64 (k : Int)] w fun e w' => e = .returned (.tuple #[]) ∧ Nx B w w' p v (dl 0 (xs.eraseIdx k)) := by
  have hl := dl_len xs 0
  have hkd : k < (dl 0 xs).length := by omega
  have HH : Hid (Ch B w p v (dl 0 xs)) := h
  have HDE : Hid (shAt k (bh xs k) ((dl 0 xs).take k ++ (dl 0 xs).drop (k + 1)) = dl 0 (xs.eraseIdx k)) := by
    show _ = _
    rw [dl_rem xs k hk]
    unfold shAt
    have ht : ((dl 0 xs).take k).length = k := by rw [List.length_take]; omega
    rw [List.take_left' ht, List.drop_left' ht]
    unfold bh lf
    rw [lst_take xs 0 k hk]
  have HW : Hid (k < ((dl 0 xs).take k ++ (dl 0 xs).drop (k + 1)).length → IntKind.i64.wrap ((((dl 0 xs).take k ++ (dl 0 xs).drop (k + 1)).getD k (0, 0)).2 + bh xs k) = (((dl 0 xs).take k ++ (dl 0 xs).drop (k + 1)).getD k (0, 0)).2 + bh xs k) := by
    intro hk2
    have ht : ((dl 0 xs).take k).length = k := by rw [List.length_take]; omega
    have hk3 : k + 1 < xs.length := by
      rw [List.length_append, ht, List.length_drop] at hk2
      omega
    have e : ((dl 0 xs).take k ++ (dl 0 xs).drop (k + 1)).getD k (0, 0) = (dl 0 xs).getD (k + 1) (0, 0) := by
      rw [List.getD_eq_getElem?_getD, List.getElem?_append_right (by omega), ht, Nat.sub_self, List.getElem?_drop, Nat.add_zero, List.getD_eq_getElem?_getD]
    rw [e, dl_getD hk3]
    have h1 := lf_bnd hb (k := k) (by omega)
    have h2 := lf_bnd hb (k := k + 1) (by omega)
    have h3 := lf_bnd hb (k := k + 1 + 1) (by omega)
    unfold bh
    rw [IntKind.wrap_i64]
    omega
  obtain ⟨g, cap, rfl, hc1, hc2⟩ := h.own.spot (by omega)
  have HD : Hid (Calls Tryd.prog 78 #[.slice (some ⟨g, 0, none⟩) xs.length cap, .int .i64 (k : Int), .int .i64 (k + 1 : Nat)] w fun e w' => ∃ sp c, e = .returned (.slice sp (xs.length - 1) c) ∧ Own B w' (.slice sp (xs.length - 1) c) ((dl 0 xs).take k ++ (dl 0 xs).drop (k + 1)) ∧ Buts (Value.slice (some ⟨g, 0, none⟩) xs.length cap).ownBlock.toList w w' ∧ (Value.slice sp (xs.length - 1) c).ownBlock = (Value.slice (some ⟨g, 0, none⟩) xs.length cap).ownBlock) := by
    have := delete_any (i := k) (j := k + 1) h.own (by omega) (by omega)
    rw [hl, show xs.length - (k + 1 - k) = xs.length - 1 by omega] at this
    exact this
  have c1 := h.lnk
  have c2 := (h.own.cells rfl k hkd).2
  rw [dl_getD hk] at c2
  have hfp : ∀ w2, Buts (Value.slice (some ⟨g, 0, none⟩) xs.length cap).ownBlock.toList w w2 → w2.cell? ⟨p, 1, none⟩ = some (.slice (some ⟨g, 0, none⟩) xs.length cap) ∧ w2.frozen? ⟨p, 1, none⟩ = false := fun w2 hb2 => by
    have e : w2.heap[p]? = w.heap[p]? := hb2.block p (at_lt h.head) (fun hm => by
      have : p = g := by simpa [Value.ownBlock] using hm
      exact h.ne (g := g) rfl this)
    refine ⟨by rw [World.cell?_of_block e, ← hl]; exact h.lnk, by rw [World.frozen?_of_block e]; exact h.fp 1⟩
  have HFP : Hid (∀ w2, Buts (Value.slice (some ⟨g, 0, none⟩) xs.length cap).ownBlock.toList w w2 → w2.cell? ⟨p, 1, none⟩ = some (.slice (some ⟨g, 0, none⟩) xs.length cap) ∧ w2.frozen? ⟨p, 1, none⟩ = false) := hfp
  have hlen : Hid (((dl 0 xs).take k ++ (dl 0 xs).drop (k + 1)).length ≤ 1000) := by
    show _ ≤ _
    have := h.len
    rw [List.length_append, List.length_take, List.length_drop]
    omega
  have hsmall := h.len
  rw [hl] at c1 HH hsmall ⊢
  obtain ⟨n, hn⟩ : ∃ n, xs.length = n := ⟨_, rfl⟩
  rw [hn] at c1 hk HH HD HFP hsmall ⊢
  generalize hbk : bh xs k = b at c2 HW HDE
  have hkI : (k : Int) < n := by omega
  have hwk : IntKind.i64.wrap ((k : Int) + 1) = (k : Int) + 1 := by rw [IntKind.wrap_i64]; omega
  have HC : Hid (((k : Int) + 1) = ((k + 1 : Nat) : Int)) := by show _ = _; omega
  clear h hfp hl hkd hn hb hbk
  go_enter Tryd.func55, Tryd.ntmps55
  go_wp2_with (first
    | (go_at_call 78; rw [HC.out]; refine HD.out.mono ?_; rintro e w2 ⟨sp, c, rfl, ho, hb2, hob⟩; obtain ⟨k1, k2⟩ := HFP.out w2 hb2; have HCh := HH.out.lay ho hb2 hlen.out (fun g' hg' => Or.inl (hob ▸ hg')); have HC1 : Hid (Ch B (w2.setCell ⟨p, 1, none⟩ (.slice sp (n - 1) c)) p (.slice sp (n - 1) c) ((dl 0 xs).take k ++ (dl 0 xs).drop (k + 1))) := HCh.1; have HB1 : Hid (Buts (p :: (Value.slice (some ⟨g, 0, none⟩) n cap).ownBlock.toList) w (w2.setCell ⟨p, 1, none⟩ (.slice sp (n - 1) c))) := HCh.2; have HOB : Hid ((Value.slice sp (n - 1) c).ownBlock = (Value.slice (some ⟨g, 0, none⟩) n cap).ownBlock) := hob; clear ho hb2 hob HCh)
    | (go_at_call 77; refine (shift_any HC1.out k b HW.out).mono ?_; rintro e w3 ⟨rfl, hc3, hb3⟩; have HC3 : Hid (Ch B w3 p (.slice sp (n - 1) c) (shAt k b ((dl 0 xs).take k ++ (dl 0 xs).drop (k + 1)))) := hc3; have HB3 : Hid (Buts (Value.slice sp (n - 1) c).ownBlock.toList (w2.setCell ⟨p, 1, none⟩ (.slice sp (n - 1) c)) w3) := hb3; clear hc3 hb3))
  go_end0
  refine ⟨rfl, .slice sp (n - 1) c, ?_, ?_, fun g' hg' => Or.inl (HOB.out ▸ hg')⟩
  · have := HC3.out
    rw [HDE.out] at this
    exact this
  · have h3 := HB3.out
    rw [HOB.out] at h3
    exact HB1.out.trans (h3.mono (fun x hx => List.mem_cons_of_mem _ hx))
end Go.Proofs.YtciafjmljmeimaaDoor
