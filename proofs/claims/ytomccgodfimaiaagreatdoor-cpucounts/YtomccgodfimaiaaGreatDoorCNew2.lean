/- A core is made of an image; or none. -/
import Derived.Test.YtomccgodfimaiaaGreatDoorCNew
namespace Go.Proofs.YtomccgodfimaiaaGreatDoor
open Go Go.RowKit
set_option maxRecDepth 100000
set_option linter.all false
/-- a core at its first instruction -/
def newC (n : Nat) (ds cs : List Int) : Cr := { rs := List.replicate 8 0, pc := 0, zs := ds ++ List.replicate (n - ds.length) 0, cs := cs, con := [], asked := false }
theorem Src.toRn {w : World} {sp : Option Addr} {zs : List Int} (h : Src w sp zs) (hb : Bs zs) : Rn.Src w.heap.size w sp zs :=
  ⟨fun hz => by
    obtain ⟨b, off, e, hc⟩ := h hz
    exact ⟨b, off, e, cell_lt (hc 0 hz), hc⟩, fun z hz => hb z hz⟩
/-- all that a core has lies above -/
def Up (B : Nat) (G : Kp) (cv : Value) : Prop := B ≤ G.p ∧ B ≤ G.q ∧ B ≤ G.g ∧ B ≤ G.mb ∧ (∀ b, (Value.slice G.cp G.k G.kc).ownBlock = some b → B ≤ b) ∧ ∀ b, cv.ownBlock = some b → B ≤ b
theorem owns_base0 {w : World} {B m s : Nat} {t : TypeId} {v : Value} {xs : List Value} (h : w.ownsRow B t s v m xs) : w.ownsRow 0 t s v m xs := by
  obtain ⟨h1, h2⟩ := h
  refine ⟨h1, ?_⟩
  rcases h2 with h2 | ⟨g, cap, cur, rfl, hg, r⟩
  · exact Or.inl h2
  · exact Or.inr ⟨g, cap, cur, rfl, Nat.zero_le _, r⟩
theorem own_slice {w : World} {B : Nat} {v : Value} {n s : Nat} {t : TypeId} {xs : List Value} (h : w.ownsRow B t s v n xs) : ∃ sp cap, v = .slice sp n cap := by
  rcases h.2 with ⟨rfl, rfl⟩ | ⟨g, cap, cur, rfl, _⟩
  · exact ⟨none, 0, rfl⟩
  · exact ⟨_, cap, rfl⟩
set_option maxHeartbeats 4000000 in
theorem New_yes {w : World} {n : Nat} {sp : Option Addr} {ds : List Int} {cp : Option Addr} {cs : List Int} {k : Nat} (hE : Env w) (hI : Img w sp ds cp cs k) (hok : okI n ds cs k = true) (dc kc : Nat) :
    Calls Tryz.prog 10 #[.agg #[.int .i64 n, .slice sp ds.length dc, .slice cp k kc]] w fun e w' => ∃ G, e = .returned (.tuple #[.pointer (some ⟨G.p, 0, none⟩), .int .i64 0]) ∧ G.k = k ∧ CM w' G (.slice none 0 0) (newC n ds cs) ∧ Below w.heap.size w w' ∧ Up w.heap.size G (.slice none 0 0) := by
  obtain ⟨⟨hn0, hn1, hn2, hn3⟩, hmay⟩ := (okI_iff n ds cs k).1 hok
  have b1 := alloc_below w (.cells #[.int .i64 n, .slice sp ds.length dc, .slice cp k kc] 25)
  have a1 := alloc_at w (.cells #[.int .i64 n, .slice sp ds.length dc, .slice cp k kc] 25)
  have z0 : (w.alloc (.cells #[.int .i64 n, .slice sp ds.length dc, .slice cp k kc] 25)).cell? ⟨w.heap.size, 0, none⟩ = some (.int .i64 n) := cell_of a1
  have z1 : (w.alloc (.cells #[.int .i64 n, .slice sp ds.length dc, .slice cp k kc] 25)).cell? ⟨w.heap.size, 1, none⟩ = some (.slice sp ds.length dc) := cell_of a1
  have z2 : (w.alloc (.cells #[.int .i64 n, .slice sp ds.length dc, .slice cp k kc] 25)).cell? ⟨w.heap.size, 2, none⟩ = some (.slice cp k kc) := cell_of a1
  have hlt : w.heap.size < (w.alloc (.cells #[.int .i64 n, .slice sp ds.length dc, .slice cp k kc] 25)).heap.size := at_lt a1
  have HE : Hid (Env (w.alloc (.cells #[.int .i64 n, .slice sp ds.length dc, .slice cp k kc] 25))) := hE.on b1
  have HI : Hid (Img (w.alloc (.cells #[.int .i64 n, .slice sp ds.length dc, .slice cp k kc] 25)) sp ds cp cs k) := hI.on b1
  have HB1 : Hid (Below w.heap.size w (w.alloc (.cells #[.int .i64 n, .slice sp ds.length dc, .slice cp k kc] 25))) := b1
  have hC : ∀ W, Env W → Img W sp ds cp cs k → Calls Tryz.prog 32 #[.agg #[.int .i64 n, .slice sp ds.length dc, .slice cp k kc]] W fun e w' => e = .returned (.bool true) ∧ Below W.heap.size W w' := fun W h1 h2 => by
    rw [← hok]; exact Check_img h1 h2 dc kc
  have HM : Hid (mayAll cs k = true) := hmay
  have hk : k ≤ 1024 := by omega
  clear hE hI b1 a1 hok hmay hn0
  go_enter Tryz.func10, Tryz.ntmps10
  go_wp2_with (first
    | (go_at_call 32; refine (hC _ HE.out HI.out).mono ?_; rintro e w2 ⟨rfl, hb2⟩; have HB2 : Hid (Below w.heap.size w w2) := HB1.out.trans (hb2.mono HB1.out.size); have HI2 : Hid (Img w2 sp ds cp cs k) := HI.out.on hb2; have y0 := ((bcell hb2).1 _ 0 hlt).trans z0; have y1 := ((bcell hb2).1 _ 1 hlt).trans z1; have y2 := ((bcell hb2).1 _ 2 hlt).trans z2; have hlt2 := Nat.lt_of_lt_of_le hlt hb2.size; clear hb2 z0 z1 z2)
    | (go_at_call 33; refine (Rn.new_yes (HI2.out.d.toRn HI2.out.db) (Nat.le_refl _) dc n (by omega) (by omega)).mono ?_; rintro e w3 ⟨q, g, rfl, hr3, hb3, hg3, hgq⟩; have HR3 : Hid (Rn.Reg w3 q g (ds ++ List.replicate (n - ds.length) 0)) := hr3; have HB3 : Hid (Below w.heap.size w w3) := HB2.out.trans (hb3.mono HB2.out.size); have HG3 : Hid (w2.heap.size ≤ g ∧ g < q) := ⟨hg3, hgq⟩; have HI3 : Hid (Img w3 sp ds cp cs k) := HI2.out.on hb3; have x2 := ((bcell hb3).1 _ 2 hlt2).trans y2; have hlt3 := Nat.lt_of_lt_of_le hlt2 hb3.size; clear hb3 y0 y1 y2 hr3 hg3 hgq)
    | (go_at_call 34; refine (clone_any HI3.out.c HI3.out.len hk kc).mono ?_; rintro e w4 ⟨v, rfl, ho4, hb4⟩; obtain ⟨sp4, cap4, rfl⟩ := own_slice ho4; have HO4 : Hid (w4.ownsRow w3.heap.size 70 4 (.slice sp4 k cap4) k (byt cs)) := ho4; have HB4 : Hid (Below w.heap.size w w4) := HB3.out.trans (hb4.mono HB3.out.size); have HR4 : Hid (Rn.Reg w4 q g (ds ++ List.replicate (n - ds.length) 0)) := HR3.out.below hb4; have HS4 : Hid (w3.heap.size ≤ w4.heap.size) := hb4.size; clear hb4 ho4)
    | (go_at_call 35; refine (doings_any _).mono ?_; rintro e w5 ⟨mb, rfl, hb5, hm5, hl5, hk5⟩; have HB5 : Hid (Below w.heap.size w w5) := HB4.out.trans (hb5.mono HB4.out.size); have HR5 : Hid (Rn.Reg w5 q g (ds ++ List.replicate (n - ds.length) 0)) := HR4.out.below hb5; have HO5 : Hid (w5.ownsRow w3.heap.size 70 4 (.slice sp4 k cap4) k (byt cs)) := owns_buts HO4.out (l := []) (Buts.of hb5) (fun _ _ => by simp); have HM5 : Hid (w4.heap.size ≤ mb ∧ mb < w5.heap.size ∧ ∃ ck, w5.heap[mb]? = some (.map (opsTo 23).toArray ck)) := ⟨hm5, hl5, hk5⟩; clear hb5 hm5 hl5 hk5))
  go_ret2
  have b6 := alloc_below w5 (.cells (hdC ⟨w5.heap.size, q, g, mb, sp4, k, cap4⟩ (.slice none 0 0) (newC n ds cs)).toArray 83)
  have a6 := alloc_at w5 (.cells (hdC ⟨w5.heap.size, q, g, mb, sp4, k, cap4⟩ (.slice none 0 0) (newC n ds cs)).toArray 83)
  have hg := HG3.out
  have hs4 := HS4.out
  have hb2 := HB2.out.size
  have hb3 := HB3.out.size
  have hb4 := HB4.out.size
  obtain ⟨hm4, hm5, ck, hmap⟩ := HM5.out
  refine ⟨⟨w5.heap.size, q, g, mb, sp4, k, cap4⟩, rfl, rfl, ?_, HB5.out.trans (b6.mono HB5.out.size), ⟨HB5.out.size, (show w.heap.size ≤ q by omega), (show w.heap.size ≤ g by omega), (show w.heap.size ≤ mb by omega), fun b hb => ?_, fun b hb => by simp [Value.ownBlock] at hb⟩⟩
  · refine { head := a6, reg := HR5.out.below b6, code := ?_, clen := HI3.out.len, cb := HI3.out.cb, cok := (mayAll_iff cs k).1 HM.out, map := ⟨ck, (b6.block _ hm5).trans hmap⟩, con := Or.inl ⟨rfl, rfl⟩, conb := Bs.nil, conl := by simp [newC], cone := by simp [Value.ownBlock], rl := rfl, rn := ?_, k := hk, pc := by simp [newC] }
    · have h1 := owns_buts HO5.out (l := []) (Buts.of b6) (fun _ _ => by simp)
      exact owns_base0 h1
    · intro z hz
      have : z = 0 := by simpa [newC] using hz
      subst this
      exact ⟨by decide, by decide⟩
  · have := (HO5.out.lt b hb).1
    omega
set_option maxHeartbeats 2000000 in
theorem New_no {w : World} {n : Int} {sp : Option Addr} {ds : List Int} {cp : Option Addr} {cs : List Int} {k : Nat} (hE : Env w) (hI : Img w sp ds cp cs k) (hok : okI n ds cs k = false) (dc kc : Nat) :
    Calls Tryz.prog 10 #[.agg #[.int .i64 n, .slice sp ds.length dc, .slice cp k kc]] w fun e w' => e = .returned (.tuple #[.pointer none, .int .i64 1]) ∧ Below w.heap.size w w' := by
  have b1 := alloc_below w (.cells #[.int .i64 n, .slice sp ds.length dc, .slice cp k kc] 25)
  have HE : Hid (Env (w.alloc (.cells #[.int .i64 n, .slice sp ds.length dc, .slice cp k kc] 25))) := hE.on b1
  have HI : Hid (Img (w.alloc (.cells #[.int .i64 n, .slice sp ds.length dc, .slice cp k kc] 25)) sp ds cp cs k) := hI.on b1
  have HB1 : Hid (Below w.heap.size w (w.alloc (.cells #[.int .i64 n, .slice sp ds.length dc, .slice cp k kc] 25))) := b1
  have hC : ∀ W, Env W → Img W sp ds cp cs k → Calls Tryz.prog 32 #[.agg #[.int .i64 n, .slice sp ds.length dc, .slice cp k kc]] W fun e w' => e = .returned (.bool false) ∧ Below W.heap.size W w' := fun W h1 h2 => by
    rw [← hok]; exact Check_img h1 h2 dc kc
  clear hE hI b1 hok
  go_enter Tryz.func10, Tryz.ntmps10
  go_wp2_with (go_at_call 32; refine (hC _ HE.out HI.out).mono ?_; rintro e w2 ⟨rfl, hb2⟩; have HB2 : Hid (Below w.heap.size w w2) := HB1.out.trans (hb2.mono HB1.out.size); clear hb2)
  go_ret2
  exact ⟨rfl, HB2.out⟩
end Go.Proofs.YtomccgodfimaiaaGreatDoor
