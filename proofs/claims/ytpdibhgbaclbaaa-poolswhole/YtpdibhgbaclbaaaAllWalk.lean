/- 'PoolsAll' walked: all blocks of somebody's are taken back at once, as many as were theirs, and no others'. -/
import Derived.Test.YtpdibhgbaclbaaaArgs
namespace Go.Proofs.Ytpdibhgbaclbaaa
open Go Go.RowKit
set_option maxRecDepth 100000
set_option linter.unusedVariables false
theorem cnt_set {x v : Int} {l : List Int} {i : Nat} (hi : i < l.length) (h : l.getD i 0 ≠ x) : cnt x (l.set i v) = cnt x l + hit v x := by
  have e : l[i] ≠ x := by simpa [hi] using h
  unfold cnt hit
  rw [List.countP_set hi]
  by_cases hv : v = x <;> simp [hv, e]
theorem clr_mem {x z : Int} {l : List Int} (hx : x ≠ 0) (h : z ∈ clr x l) : z ≠ x := by
  obtain ⟨y, _, rfl⟩ := List.mem_map.1 h
  split
  · exact fun e => hx e.symm
  · assumption
theorem owns_but {w w' : World} {B p n m : Nat} {v : Value} {zs : List Int} {xs : List Value} (h : w.ownsRow B 22 1 v m xs) (hp : Pool w p n zs) (hb : But p w w') : w'.ownsRow B 22 1 v m xs :=
  owns_of h fun g hg => hb.block g (h.lt g hg).2 (block_ne h hg hp.head (by decide))
theorem owns_below {w w' : World} {B m : Nat} {v : Value} {xs : List Value} (h : w.ownsRow B 22 1 v m xs) (hb : Below w.heap.size w w') : w'.ownsRow B 22 1 v m xs :=
  owns_of h fun g hg => hb.block g (h.lt g hg).2
theorem own_cell {w : World} {B g n cap : Nat} {zs : List Int} (ho : w.ownsRow B 22 1 (.slice (some ⟨g, 0, none⟩) n cap) n (wrd zs)) {i : Nat} (hi : i < n) : w.cell? ⟨g, i, none⟩ = some (.int .u32 (zs.getD i 0)) := by
  have hn : zs.length = n := by have := ho.1; rw [wrd_len] at this; omega
  rw [ho.cellAt i (by omega)]; exact wrd_at zs i (by omega)
theorem all_is {w : World} {p n c : Nat} {zs : List Int} (h : Pool w p n zs) (who : Int) (hw : 0 < who) (hc : cnt who zs = c) :
    Calls Try.prog 10 #[.pointer (some ⟨p, 0, none⟩), .int .u32 who] w fun e w' => e = .returned (.int .i64 (c : Nat)) ∧ Pool w' p n (clr who zs) ∧ But p w w' := by
  subst hc; exact all_any h who hw
/-- who has what, behind so many -/
def fA (L : List Int) (i : Nat) : Nat → Int := fun j => if j < i then L.getD j 0 + 1 else 0
set_option maxHeartbeats 4000000 in
theorem all_walk (m x : Int) (hm : 0 ≤ m ∧ m ≤ 255) (hx : 0 ≤ x ∧ x ≤ 255) {sp : Option Addr} {L : List Int} (w : World) (hs : BSrc w.heap.size w sp L) (hl : L.length ≤ maxLen) (cap : Nat) :
    Calls Try.prog 5 #[.int .u8 m, .slice sp L.length cap, .int .u8 x] w fun e w' => e = .returned (.bool true) ∧ Below w.heap.size w w' := by
  unfold maxLen at hl
  obtain ⟨n, hn⟩ := Int.eq_ofNat_of_zero_le (a := 1 + m % 64) (by omega)
  have HN : Hid ((n : Int) = 1 + m % 64) := hn.symm
  have h1 : 1 ≤ n := by omega
  have h2 : n ≤ 64 := by omega
  obtain ⟨q, hq⟩ : ∃ q, L.length = q := ⟨_, rfl⟩
  rw [hq] at hl ⊢
  have HQ : Hid (L.length = q) := hq
  have HS : Hid (BSrc w.heap.size w sp L) := hs
  clear hq hs
  by_cases hbig : 100 < q
  · go_enter Try.func5, Try.ntmps5
    go_wp2_with (first
      | (go_at_call 13; clear M1; refine (alive_any _).mono ?_; rintro e w2 ⟨rfl, hb2⟩)
      | (go_at_call 13; refine (alive_any _).mono ?_; rintro e w1 ⟨rfl, hB⟩; have M1 := True.intro))
    go_ret
    exact ⟨rfl, hB.trans (hb2.mono hB.size)⟩
  · go_enter Try.func5, Try.ntmps5
    go_wp2_with (first
      | (go_at_call 13; refine (alive_any _).mono ?_; rintro e w1 ⟨rfl, hB⟩)
      | (go_at_call 14; refine (of_any m hm n HN.out).mono ?_; rintro e w2 ⟨rfl, hP, hb2⟩; rw [tab_zero] at hP; have HP : Hid (Pool w2 w1.heap.size n (tab n (fA L 0))) := hP; have hp0 := hB.size; replace hB := hB.trans (hb2.mono hB.size); clear hP hb2; generalize w1.heap.size = p at *))
    obtain ⟨k, hk1, hk2, hk3⟩ : ∃ k : Nat, k ≤ q ∧ k ≤ n ∧ (k = q ∨ k = n) := ⟨min q n, by omega, by omega, by omega⟩
    go_loopg [8, 9] k (fun g s8 s9 wx => ∃ i : Nat, i + g = k ∧ s9 = .int .i64 i ∧ s8 = .int .i64 (cnt (x + 1) (tab n (fA L i)) : Nat) ∧ Hid (Pool wx p n (tab n (fA L i))) ∧ Below w.heap.size w wx)
    case atStart => exact ⟨0, by omega, rfl, by rw [cnt_none (fun z hz => by obtain ⟨j, _, rfl⟩ := tab_mem hz; simp [fA]; omega)]; rfl, HP, hB⟩
    case round =>
      clear HP hB
      obtain ⟨i, hig, rfl, rfl, HP, hB⟩ := hrel
      have hcl : cnt (x + 1) (tab n (fA L i)) ≤ n := by have := cnt_le (x + 1) (tab n (fA L i)); rwa [tab_len] at this
      cases gk with
      | succ g =>
        have hlt : (i : Int) < q := by omega
        have hlt2 : (i : Int) < n := by omega
        obtain ⟨b, off, rfl, hbl, hc⟩ := HS.out.spot (by rw [HQ.out]; omega)
        have hz := hc i (by rw [HQ.out]; omega)
        have hzb := HS.out.at i
        have z0 : (tab n (fA L i)).getD i 0 = 0 := by rw [tab_at (by omega)]; simp [fA]
        have zj : ∀ j, j < i → (tab n (fA L i)).getD j 0 ≠ 0 := fun j hj => by rw [tab_at (by omega)]; have := HS.out.at j; unfold fA; rw [if_pos hj]; omega
        have zs : (tab n (fA L i)).set i (L.getD i 0 + 1) = tab n (fA L (i + 1)) := tab_set (by omega) (by simp [fA]) (fun j hj hne => by unfold fA; simp [show (j < i + 1) ↔ (j < i) by omega])
        have zc : cnt (x + 1) (tab n (fA L (i + 1))) = cnt (x + 1) (tab n (fA L i)) + hit (L.getD i 0 + 1) (x + 1) := by rw [← zs, cnt_set (by rw [tab_len]; omega) (by rw [z0]; omega)]
        have hz1 := (hB.cell (p := ⟨b, off + i, none⟩) hbl).trans hz
        have Z0 : Hid ((tab n (fA L i)).getD i 0 = 0) := z0
        have ZJ : Hid (∀ j, j < i → (tab n (fA L i)).getD j 0 ≠ 0) := zj
        have ZS : Hid ((tab n (fA L i)).set i (L.getD i 0 + 1) = tab n (fA L (i + 1))) := zs
        have ZC : Hid (cnt (x + 1) (tab n (fA L (i + 1))) = cnt (x + 1) (tab n (fA L i)) + hit (L.getD i 0 + 1) (x + 1)) := zc
        clear z0 zj zs zc hc
        generalize L.getD i 0 = z at *
        by_cases hzx : z = x
        · subst hzx
          rw [hit_yes] at ZC
          go_wp2_with (first
            | (go_at_call 8; refine (alloc_yes HP.out _ (by omega) i (by omega) Z0.out ZJ.out).mono ?_; rintro e w3 ⟨rfl, hP2, hb2⟩; rw [ZS.out] at hP2; have HP2 : Hid (Pool w3 p n (tab n (fA L (i + 1)))) := hP2; replace hB := hB.trans (hb2.below hp0 hB.size); have hz2 := (hB.cell (p := ⟨b, off + i, none⟩) hbl).trans hz; clear hP2 hb2))
          go_roundg g
          case measure => omega
          case rel => exact ⟨i + 1, by omega, by go_num, by rw [ZC.out]; rfl, HP2, hB⟩
        · have hzx' : (z == x) = false := by simpa using hzx
          rw [hit_no (by omega)] at ZC
          go_wp2_with (first
            | (go_at_call 8; refine (alloc_yes HP.out _ (by omega) i (by omega) Z0.out ZJ.out).mono ?_; rintro e w3 ⟨rfl, hP2, hb2⟩; rw [ZS.out] at hP2; have HP2 : Hid (Pool w3 p n (tab n (fA L (i + 1)))) := hP2; replace hB := hB.trans (hb2.below hp0 hB.size); have hz2 := (hB.cell (p := ⟨b, off + i, none⟩) hbl).trans hz; clear hP2 hb2))
          go_roundg g
          case measure => omega
          case rel => exact ⟨i + 1, by omega, by go_num, by rw [ZC.out]; rfl, HP2, hB⟩
      | zero =>
        obtain rfl : i = k := by omega
        clear HS HQ
        generalize tab n (fA L i) = T at *
        have HT : Hid (T.length = n) := HP.out.len
        obtain ⟨c, hc⟩ : ∃ c, cnt (x + 1) T = c := ⟨_, rfl⟩
        rw [hc] at hcl
        rw [hc]
        have HC : Hid (cnt (x + 1) T = c) := hc
        clear hc
        have hlq : ¬ (i : Int) < q ∨ ((i : Int) < q ∧ ¬ (i : Int) < n) := by omega
        rcases hlq with hlq | ⟨hlq, hln⟩
        all_goals
          go_wp2_with (first
            | (go_at_call 11; clear M1; refine (owners_any HP4.out).mono ?_; rintro e w8 ⟨g2, c2, rfl, hr2, hb8⟩; have HR2 : Hid (w8.ownsRow w7.heap.size 22 1 (.slice (some ⟨g2, 0, none⟩) n c2) n (wrd (clr (x + 1) T))) := hr2; replace HR : Hid (w8.ownsRow wr.heap.size 22 1 (.slice (some ⟨g1, 0, none⟩) n c1) n (wrd T)) := owns_below HR.out hb8; replace hB := hB.trans (hb8.mono hB.size); clear hr2 hb8)
            | (go_at_call 11; refine (owners_any HP.out).mono ?_; rintro e w4 ⟨g1, c1, rfl, hr, hb4⟩; have HR : Hid (w4.ownsRow wr.heap.size 22 1 (.slice (some ⟨g1, 0, none⟩) n c1) n (wrd T)) := hr; have HP1 : Hid (Pool w4 p n T) := HP.out.below hb4; replace hB := hB.trans (hb4.mono hB.size); clear hr hb4)
            | (go_at_call_of 10 (Value.int IntKind.u32 0); refine (all_nobody _).mono ?_; rintro e w5 ⟨rfl, hb5⟩; have HP2 : Hid (Pool w5 p n T) := HP1.out.below hb5; replace HR : Hid (w5.ownsRow wr.heap.size 22 1 (.slice (some ⟨g1, 0, none⟩) n c1) n (wrd T)) := owns_below HR.out hb5; replace hB := hB.trans (hb5.mono hB.size); clear hb5)
            | (go_at_call 10; refine (all_none HP3.out (x + 1) (by omega) (fun z hz => clr_mem (by omega) hz)).mono ?_; rintro e w7 ⟨rfl, hp7, hb7⟩; have HP4 : Hid (Pool w7 p n (clr (x + 1) T)) := hp7; replace HR : Hid (w7.ownsRow wr.heap.size 22 1 (.slice (some ⟨g1, 0, none⟩) n c1) n (wrd T)) := owns_but HR.out HP3.out hb7; replace hB := hB.trans (hb7.below hp0 hB.size); clear hp7 hb7; have M1 := True.intro)
            | (go_at_call 10; refine (all_is HP2.out (x + 1) (by omega) HC.out).mono ?_; rintro e w6 ⟨rfl, hp6, hb6⟩; have HP3 : Hid (Pool w6 p n (clr (x + 1) T)) := hp6; replace HR : Hid (w6.ownsRow wr.heap.size 22 1 (.slice (some ⟨g1, 0, none⟩) n c1) n (wrd T)) := owns_but HR.out HP2.out hb6; replace hB := hB.trans (hb6.below hp0 hB.size); clear hp6 hb6))
          go_loopg [14] n (fun g s14 wx => ∃ i : Nat, i + g = n ∧ s14 = .int .i64 i ∧ w8 = wx)
          case atStart => exact ⟨0, by omega, rfl, rfl⟩
          case round =>
            obtain ⟨j, hjg, rfl, rfl⟩ := hrel
            cases gk with
            | zero =>
              obtain rfl : j = n := by omega
              have hjl : ¬ ((j : Int) < j) := by omega
              go_wp2
              go_ret
              exact ⟨rfl, hB⟩
            | succ g =>
              have hjl : (j : Int) < n := by omega
              have e1 := own_cell HR.out (i := j) (by omega)
              have e2 := own_cell HR2.out (i := j) (by omega)
              rw [clr_at] at e2
              generalize T.getD j 0 = z at *
              by_cases hz : z = x + 1
              · subst hz
                rw [if_pos rfl] at e2
                go_wp2
                go_roundg g
                case measure => omega
                case rel => exact ⟨j + 1, by omega, by go_num, rfl⟩
              · rw [if_neg hz] at e2
                have hz' : (z == x + 1) = false := by simpa using hz
                go_wp2
                go_roundg g
                case measure => omega
                case rel => exact ⟨j + 1, by omega, by go_num, rfl⟩
end Go.Proofs.Ytpdibhgbaclbaaa
