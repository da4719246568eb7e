/- Package kernel, proved: part KtK2. No law of the program itself. -/
import Derived.RangeFuncBox
import Derived.RangeFuncLeaves
import Derived.RangeFuncCalls
import Derived.Shelf.Abstract
import Derived.Shelf.RegionOpen
import Derived.OwnWalkIn
import Derived.TacticsInMore
import Derived.LoopNIn
import Derived.LoopIn
import Derived.Maps.AppendAt
import Derived.Sort.QuietTacIn
import Derived.Defers
import Derived.Test.YtbbdndfibjdcfaaGreatKtHd1
import Derived.Test.YtbbdndfibjdcfaaGreatKtRd1
import Derived.Test.YtbbdndfibjdcfaaGreatKtWt1
import Derived.Test.YtbbdndfibjdcfaaGreatKtHr1
import Derived.Test.YtbbdndfibjdcfaaGreatKtTm1
import Derived.Test.YtbbdndfibjdcfaaGreatKtTm3
import Derived.Test.YtbbdndfibjdcfaaGreatKtK1
import Derived.Test.YtbbdndfibjdcfaaGreatKtA1
set_option maxRecDepth 100000
set_option linter.all false
set_option maxHeartbeats 16000000
namespace Go.Proofs.YtbbdndfibjdcfaaGreat
open Go Go.RowKit
theorem pigeon:∀ (n:Nat) (l:List Int),l.Nodup->(∀ x∈l,0<=x/\x < n)->l.length<=n
 | 0,[],_,_=>Nat.le_refl _
 | 0,x :: l,_,h=>by have:=h x (List.mem_cons_self ..);omega
 | n+1,l,hn,h=>by
  have:=pigeon n (l.erase (n:Int)) (hn.erase _) fun x hx=>by
   have h1:=h x (List.mem_of_mem_erase hx)
   have h2:x≠n:=fun e=>by subst e;exact(hn.mem_erase_iff.1 hx).1 rfl
   omega
  rw [List.length_erase] at this
  split at this <;> omega
theorem KX.shutEn{own:Nat->Nat}{G:Geo}{w:World}{k:Kn}(h:KX 7 own G w k){ts:Nat->Option Ta}{wc:Int}(hc:∀ i,(ts i).map (tC G i)=(k.ts i).map (tC G i))(ho:own G.ep=7){v:Value}{ys:List (Int×Int)}(hv:∀ g,v.ownBlock=some g->own g=7)(hl:Tm.Lst 0 w G.ep v ys)(he:Ends ts wc ys):KM own G w { k with ts:=ts,wc:=wc }:=by
 have f:∀ i t,ts i=some t->∃ u,k.ts i=some u/\tC G i u=tC G i t:=fun i t ht=>by
  have:=hc i
  rw [ht] at this
  cases hu:k.ts i with
  | none=>rw [hu] at this;cases this
  | some u=>rw [hu] at this;simp only [Option.map_some,Option.some.injEq] at this;exact⟨u,rfl,this.symm⟩
 refine⟨fun _=>h.kern (by decide),fun _=>h.tn (by decide),fun _=>h.on (by decide),fun _=>?_,fun _=>h.oa (by decide),fun _=>h.rd (by decide),fun _=>⟨ho,v,ys,hv,hl,he⟩,fun _=>h.al (by decide),h.nc,h.slo,fun i t ht=>?_,h.xs,fun i t ht=>?_,h.oi,fun i t ht _=>?_,fun o x hx _=>h.thg o x hx (by omega),fun o x hx _=>h.obj o x hx (by omega),fun o x hx _=>h.que o x hx (by omega)⟩
 ·have e:taC G ts=taC G k.ts:=by
   unfold taC
   congr 2
   funext i
   unfold tPt
   have:=congrArg Option.isSome (hc i)
   simp only [Option.isSome_map] at this
   rw [this]
  show own G.ta=4/\w.heap[G.ta]?=some (.cells (taC G ts) 109 (0,0))
  rw [e]
  exact h.ta (by decide)
 ·obtain⟨u,hu,e⟩:=f i t ht
  have h7:=congrArg (fun a:Array Value=>a[7]?) e
  simp [tC] at h7
  have:=h.av i u hu
  omega
 ·obtain⟨u,hu,_⟩:=f i t ht
  exact h.ti i u hu
 ·obtain⟨u,hu,e⟩:=f i t ht
  rw [←e]
  exact h.task i u hu (by omega)
theorem oaC_set{G:Geo}{os:Nat->Option Th}{o:Nat}{x x':Th}(hx:os o=some x):oaC G (set1 os o (some x'))=oaC G os:=by
 unfold oaC
 congr 2
 funext j
 unfold oPt
 by_cases e:j=o
 ·subst e;rw [set1_at,hx];rfl
 ·rw [set1_ne _ _ e]
theorem KX.shutQue{own:Nat->Nat}{G:Geo}{w:World}{k:Kn}{o:Nat}{x:Th}(h:KX (110+o) own G w k)(hx:k.os o=some x){q:List (Int×Int)}(hq:Wt.Qu (fun b=>own b=110+o) w (G.qp o) q):KM own G w (k.setO o { x with q:=q }):=by
 refine⟨fun _=>h.kern (by omega),fun _=>h.tn (by omega),fun _=>h.on (by omega),fun _=>h.ta (by omega),fun _=>?_,fun _=>h.rd (by omega),fun _=>h.en (by omega),fun _=>h.al (by omega),h.nc,h.slo,h.av,h.xs.set hx ⟨rfl,rfl⟩,h.ti,fun j u hu=>?_,fun i t ht _=>h.task i t ht (by have:=h.ti i t ht;omega),fun j u hu _=>?_,fun j u hu _=>?_,fun j u hu _=>?_⟩
 ·have:=h.oa (by omega)
  show own G.oa=5/\w.heap[G.oa]?=some (.cells (oaC G (set1 k.os o _)) 77 (0,0))
  rw [oaC_set hx];exact this
 all_goals by_cases e:j=o
 ·subst e;exact h.oi j x hx
 ·exact h.oi j u (by simpa [Kn.setO,set1_ne _ _ e] using hu)
 ·subst e
  obtain rfl:u={ x with q:=q }:=by simpa [Kn.setO,set1_at] using hu.symm
  exact h.thg j x hx (by have:=h.oi j x hx;omega)
 ·have hu':k.os j=some u:=by simpa [Kn.setO,set1_ne _ _ e] using hu
  exact h.thg j u hu' (by have:=h.oi j u hu';omega)
 ·subst e
  obtain rfl:u={ x with q:=q }:=by simpa [Kn.setO,set1_at] using hu.symm
  exact h.obj j x hx (by omega)
 ·have hu':k.os j=some u:=by simpa [Kn.setO,set1_ne _ _ e] using hu
  exact h.obj j u hu' (by have:=h.oi j u hu';omega)
 ·subst e
  obtain rfl:u={ x with q:=q }:=by simpa [Kn.setO,set1_at] using hu.symm
  exact hq
 ·exact h.que j u (by simpa [Kn.setO,set1_ne _ _ e] using hu) (by omega)
theorem KX.shutObj{own:Nat->Nat}{G:Geo}{w:World}{k:Kn}{o:Nat}{x:Th}(h:KX (70+o) own G w k)(hx:k.os o=some x){T:Ob.Sx}(hk:T.k=x.x.k/\T.a=x.x.a/\T.b=x.x.b)(ho:Own3 own G o T.k/\Ob.KT w (G.op o) (G.of o) (G.og o) T):KM own G w (k.setO o { x with x:=T }):=by
 refine⟨fun _=>h.kern (by omega),fun _=>h.tn (by omega),fun _=>h.on (by omega),fun _=>h.ta (by omega),fun _=>?_,fun _=>h.rd (by omega),fun _=>h.en (by omega),fun _=>h.al (by omega),h.nc,h.slo,h.av,h.xs.set hx ⟨hk.2.1,hk.2.2⟩,h.ti,fun j u hu=>?_,fun i t ht _=>h.task i t ht (by have:=h.ti i t ht;omega),fun j u hu _=>?_,fun j u hu _=>?_,fun j u hu _=>?_⟩
 ·have:=h.oa (by omega)
  show own G.oa=5/\w.heap[G.oa]?=some (.cells (oaC G (set1 k.os o _)) 77 (0,0))
  rw [oaC_set hx];exact this
 all_goals by_cases e:j=o
 ·subst e;exact h.oi j x hx
 ·exact h.oi j u (by simpa [Kn.setO,set1_ne _ _ e] using hu)
 ·subst e
  obtain rfl:u={ x with x:=T }:=by simpa [Kn.setO,set1_at] using hu.symm
  have:=h.thg j x hx (by have:=h.oi j x hx;omega)
  unfold xC at this ⊢
  simp only [hk.1,hk.2.1,hk.2.2]
  exact this
 ·have hu':k.os j=some u:=by simpa [Kn.setO,set1_ne _ _ e] using hu
  exact h.thg j u hu' (by have:=h.oi j u hu';omega)
 ·subst e
  obtain rfl:u={ x with x:=T }:=by simpa [Kn.setO,set1_at] using hu.symm
  exact ho
 ·have hu':k.os j=some u:=by simpa [Kn.setO,set1_ne _ _ e] using hu
  exact h.obj j u hu' (by omega)
 ·subst e
  obtain rfl:u={ x with x:=T }:=by simpa [Kn.setO,set1_at] using hu.symm
  exact h.que j x hx (by omega)
 ·have hu':k.os j=some u:=by simpa [Kn.setO,set1_ne _ _ e] using hu
  exact h.que j u hu' (by have:=h.oi j u hu';have:=h.oi o x hx;omega)
theorem Own3.ext{own:Nat->Nat}{G:Geo}{o:Nat}{k:Int}{t:Nat}{w w':World}{T:Ob.Sx}(h:Own3 own G o k)(hl:Cl w (G.op o)/\(k≠6->Cl w (G.of o)/\Cl w (G.og o)))(hk:T.k=k)(hT:Ob.KT w' (G.op o) (G.of o) (G.og o) T):Own3 (ext own G w w' t) G o T.k:=by
 have h':Own3 own G o T.k:=hk ▸ h
 obtain⟨c1,c2⟩:=h'.cl hT
 exact⟨(ext_cl c1 hl.1.lt).trans h.p,fun k6=>(ext_cl (c2 k6).1 (hl.2 (hk ▸ k6)).1.lt).trans (h.f (hk ▸ k6)),fun k6=>(ext_cl (c2 k6).2 (hl.2 (hk ▸ k6)).2.lt).trans (h.g (hk ▸ k6)),h'.gf⟩
theorem setO_id{k:Kn}{o:Nat}{x:Th}(hx:k.os o=some x):k.setO o { x with x:=x.x }=k:=by
 unfold Kn.setO
 have:set1 k.os o (some { x with x:=x.x })=k.os:=by rw [←hx];exact set1_self _ _
 rw [this]
theorem try6{w:World}{p f g:Nat}{T:Ob.Sx}(h:Ob.KT w p f g T)(h6:T.k=6)(who wh ah:Int)(av am:Nat)(aw:Int)(hw:0<=who/\who<=4294967295) :
  Calls Tryz.prog 58 #[.pointer (some ⟨p,0,none⟩),.int .u32 who,.agg #[.int .u8 wh,.int .u32 ah,.int .u32 (av:Nat),.int .u32 (am:Nat),.int .i64 aw]] w fun e w'=>e=.returned (.tuple #[.int .u32 0,.int .i64 1])/\Below w.heap.size w w':=by
 obtain⟨t,hh⟩:=h.hd
 have hk:=h.kind
 by_cases hno:who=0∨Ob.Tk.fitB wh T.k=false
 ·exact Ob.try_no hh (by omega) who wh ah av am aw hno
 cases h with
 | ala h =>
  have hlo:Ob.Tk.fitB wh 6=true:=by
   cases e:Ob.Tk.fitB wh 6
   ·exact absurd (Or.inr e) hno
   ·rfl
  exact Ob.try_ala h.hh (by decide) who wh ah av am aw (by omega) hlo (R:=fun w'=>Below w.heap.size w w') fun wx hb=>(Ob.ala_any who wh ah av am aw).mono fun e w' ⟨he,h2⟩=>⟨he,hb.trans (h2.mono hb.size)⟩
 | _=>simp at h6
theorem leave6{w:World}{p f g:Nat}{T:Ob.Sx}(h:Ob.KT w p f g T)(h6:T.k=6)(who:Int)(hw:0<=who) :
  (Ob.lB T who=false/\Ob.lT T who=T)/\Calls Tryz.prog 104 #[.pointer (some ⟨p,0,none⟩),.int .u32 who] w fun e w'=>e=.returned (.bool false)/\w=w':=by
 obtain⟨t,hh⟩:=h.hd
 by_cases h0:who=0
 ·subst h0
  exact⟨⟨by simp [Ob.lB],by simp [Ob.lT]⟩,(Ob.leave_zero hh).mono fun e w' ⟨he,hb⟩=>⟨he,hb⟩⟩
 have e0:(0:Int)≠who:=fun e=>h0 e.symm
 cases h with
 | ala h=>exact⟨⟨by simp [Ob.lB,e0,Ob.Pl.cnt],by simp [Ob.lT,h0,e0,Ob.Pl.clr]⟩,(Ob.leave_of h.hh who h0 (R:=fun w'=>w=w') (Ob.back_other who (Or.inr (Or.inr (Or.inr rfl))))).mono fun e w' ⟨he,hb⟩=>⟨he,hb⟩⟩
 | _=>simp at h6
theorem qu_ext{own:Nat->Nat}{G:Geo}{t:Nat}{w w':World}{p:Nat}{xs:List (Int×Int)}(h:Wt.Qu (fun b=>ext0 own w.heap.size t b=t) w' p xs):Wt.Qu (fun b=>ext own G w w' t b=t) w' p xs:=by
 have e:∀ b,Cl w' b->ext own G w w' t b=ext0 own w.heap.size t b:=fun b hb=>by
  rcases Nat.lt_or_ge b w.heap.size with c | c
  ·rw [ext_cl hb c,ext0_lt c]
  ·rw [ext_new hb c,ext0_ge c]
 exact Qu.keep h (fun b hb _=>rfl) fun b hb hc=>e b hc
section
variable {o0:Nat->Nat} {w0 w w':World} {G:Geo} {k:Kn}
theorem k_remove(h:St o0 w0 G w k)(i:Int):Calls Tryz.prog 69 #[.pointer (some ⟨G.rp,0,none⟩),.int .i64 i] w fun e w'=>(∃ x,e=.returned (.int .i64 x))/\St o0 w0 G w' { k with rd:=Rd.rmX k.rd i }:=by
 obtain⟨own,h,x⟩:=h
 obtain⟨h1,h2⟩:=h.rd (by decide)
 refine(Rd.qremove_any h2 i).mono fun e w' ⟨he,hq,hm⟩=>⟨⟨_,he⟩,_,(h.off (off_rd hm h1)).shutRd hq ?_,x.trans ((off_rd hm h1).ext (by decide))⟩
 intro b hb1 hb2
 rw [ext_ex (Or.inr ⟨hb1,hb2⟩) (by have:=h2.le;omega)]
 exact h1 b hb1 hb2
theorem k_put(h:St o0 w0 G w k)(i r:Int):Calls Tryz.prog 109 #[.pointer (some ⟨G.rp,0,none⟩),.int .i64 i,.int .i64 r] w fun e w'=>(∃ x,e=.returned (.int .i64 x))/\St o0 w0 G w' { k with rd:=Rd.putX k.rd i r }:=by
 obtain⟨own,h,x⟩:=h
 obtain⟨h1,h2⟩:=h.rd (by decide)
 refine(Rd.qput_any h2 i r).mono fun e w' ⟨he,hq,hm⟩=>⟨⟨_,he⟩,_,(h.off (off_rd hm h1)).shutRd hq ?_,x.trans ((off_rd hm h1).ext (by decide))⟩
 intro b hb1 hb2
 rw [ext_ex (Or.inr ⟨hb1,hb2⟩) (by have:=h2.le;omega)]
 exact h1 b hb1 hb2
theorem k_first(h:St o0 w0 G w k):Calls Tryz.prog 106 #[.pointer (some ⟨G.rp,0,none⟩)] w fun e w'=>e=.returned (.tuple #[.int .i64 (Rd.fsv k.rd),.bool (Rd.fsb k.rd)])/\St o0 w0 G w' k/\Below w.heap.size w w':=by
 have h':=h
 obtain⟨own,h,x⟩:=h
 exact(Rd.qfirst_any (h.rd (by decide)).2).mono fun e w' ⟨he,hb⟩=>⟨he,h'.below hb,hb⟩
theorem Ends.clear{ts:Nat->Option Ta}{wc:Int}{ys:List (Int×Int)}(h:Ends ts wc ys){i:Nat}{t t':Ta}(ht:ts i=some t)(h0:t'.left<=0):Ends (set1 ts i (some t')) wc (Tm.gone ys i):=by
 have f:∀ j u,set1 ts i (some t') j=some u->0 < u.left->j≠i/\ts j=some u:=fun j u hu hl=>by
  by_cases e:j=i
  ·subst e
   rw [set1_at] at hu
   obtain rfl:t'=u:=by simpa using hu
   omega
  ·rw [set1_ne _ _ e] at hu;exact⟨e,hu⟩
 refine⟨fun y=>?_,?_,fun j u hu hl=>h.top j u (f j u hu hl).2 hl⟩
 ·simp only [Tm.gone,List.mem_filter,decide_eq_true_eq]
  rw [h.mem y]
  constructor
  ·rintro ⟨⟨j,u,e,hu,hl⟩,hne⟩
   refine⟨j,u,e,?_,hl⟩
   rw [set1_ne _ _ (by rintro rfl;rw [e] at hne;exact hne rfl)]
   exact hu
  ·rintro ⟨j,u,e,hu,hl⟩
   obtain⟨h1,h2⟩:=f j u hu hl
   exact⟨⟨j,u,e,h2,hl⟩,by rw [e];simp only;omega⟩
 ·refine(List.Pairwise.filter _ (List.Pairwise.and_mem.1 h.ord)).imp_of_mem fun {a b} ha hb hab s u hs hu=>?_
  have ha':=List.mem_filter.1 ha
  have hb':=List.mem_filter.1 hb
  obtain⟨j,v,ea,_,_⟩:=(h.mem a).1 ha'.1
  obtain⟨l,z,eb,_,_⟩:=(h.mem b).1 hb'.1
  have na:a.1.toNat≠i:=by
   have:=ha'.2
   rw [ea] at this ⊢
   simp only [decide_eq_true_eq] at this
   simp only;omega
  have nb:b.1.toNat≠i:=by
   have:=hb'.2
   rw [eb] at this ⊢
   simp only [decide_eq_true_eq] at this
   simp only;omega
  rw [set1_ne _ _ na] at hs
  rw [set1_ne _ _ nb] at hu
  exact hab.2.2 s u hs hu
theorem off_nt{own:Nat->Nat}{w w':World}{p:Nat}{v:Value}(hb:Tm.Buts (p :: v.ownBlock.toList) w w'){t:Nat}(ho:own p=t)(hv:∀ g,v.ownBlock=some g->own g=t):Off own t w w' :=
 off_tm hb fun x hx=>by
  rcases List.mem_cons.1 hx with rfl | hx
  ·exact ho
  ·exact hv x (by simpa using hx)
theorem k_dremove(h:St o0 w0 G w k){i:Nat}{t:Ta}(ht:k.ts i=some t):Calls Tryz.prog 96 #[.pointer (some ⟨G.ep,0,none⟩),.int .i64 i] w fun e w'=>(∃ x,e=.returned (.int .i64 x))/\St o0 w0 G w' (k.setT i { t with left:=0 }):=by
 obtain⟨own,h,x⟩:=h
 obtain⟨h1,v,ys,h2,h3,h4⟩:=h.en (by decide)
 refine(Tm.remove_is h3 i).mono fun e w' ⟨he,v',hl,hb,hv⟩=>?_
 have hoff:=off_nt hb h1 h2
 refine⟨⟨_,he⟩,_,(h.off hoff).shutEn (ts:=set1 k.ts i (some { t with left:=0 })) (wc:=k.wc) (fun j=>?_) ((ext_cl (Cl.of hl.ch.head) (at_lt h3.ch.head)).trans h1) (fun g hg=>?_) hl (h4.clear ht (by simp)),x.trans (hoff.ext (by decide))⟩
 ·by_cases e:j=i
  ·subst e;rw [set1_at,ht];rfl
  ·rw [set1_ne _ _ e]
 ·rcases hv g hg with c | c
  ·exact(ext_cl (own_cl hl.ch.own hg) (h3.ch.own.lt' c).2).trans (h2 g c)
  ·exact ext_new (own_cl hl.ch.own hg) c
theorem k_wremove(h:St o0 w0 G w k){o:Nat}{x:Th}(hx:k.os o=some x)(i:Int):Calls Tryz.prog 103 #[.pointer (some ⟨G.qp o,0,none⟩),.int .i64 i] w fun e w'=>(∃ x,e=.returned (.int .i64 x))/\St o0 w0 G w' (k.setO o { x with q:=Wt.gone x.q i }):=by
 obtain⟨own,h,y⟩:=h
 have hq:=Qu.keep (own':=ext0 own w.heap.size (110+o)) (w':=w) (h.que o x hx (by omega)) (fun b hb _=>rfl) fun b hb _=>ext0_lt hb
 refine(Wt.qremove_any hq i (ext0_up _ _ _)).mono fun e w' ⟨he,h1,hl⟩=>?_
 have hoff:=off_wt hl
 exact⟨⟨_,he⟩,_,(h.off hoff).shutQue hx (qu_ext h1),y.trans (hoff.ext (by omega))⟩
theorem k_wput(h:St o0 w0 G w k){o:Nat}{x:Th}(hx:k.os o=some x)(hl:x.q.length < 1000)(i r:Int):Calls Tryz.prog 190 #[.pointer (some ⟨G.qp o,0,none⟩),.int .i64 i,.int .i64 r] w fun e w'=>(∃ x,e=.returned (.int .i64 x))/\St o0 w0 G w' (k.setO o { x with q:=Wt.putL x.q i r }):=by
 obtain⟨own,h,y⟩:=h
 have hq:=Qu.keep (own':=ext0 own w.heap.size (110+o)) (w':=w) (h.que o x hx (by omega)) (fun b hb _=>rfl) fun b hb _=>ext0_lt hb
 refine(Wt.qput_any hq hl i r (ext0_up _ _ _)).mono fun e w' ⟨he,h1,hl⟩=>?_
 have hoff:=off_wt hl
 exact⟨⟨_,he⟩,_,(h.off hoff).shutQue hx (qu_ext h1),y.trans (hoff.ext (by omega))⟩
theorem k_wchange(h:St o0 w0 G w k){o:Nat}{x:Th}(hx:k.os o=some x)(i r:Int):Calls Tryz.prog 138 #[.pointer (some ⟨G.qp o,0,none⟩),.int .i64 i,.int .i64 r] w fun e w'=>(∃ x,e=.returned (.int .i64 x))/\St o0 w0 G w' (k.setO o { x with q:=Wt.chL x.q i r }):=by
 obtain⟨own,h,y⟩:=h
 have hq:=Qu.keep (own':=ext0 own w.heap.size (110+o)) (w':=w) (h.que o x hx (by omega)) (fun b hb _=>rfl) fun b hb _=>ext0_lt hb
 refine(Wt.qchange_any hq i r (ext0_up _ _ _)).mono fun e w' ⟨he,h1,hl⟩=>?_
 have hoff:=off_wt hl
 exact⟨⟨_,he⟩,_,(h.off hoff).shutQue hx (qu_ext h1),y.trans (hoff.ext (by omega))⟩
theorem k_wlist(h:St o0 w0 G w k){o:Nat}{x:Th}(hx:k.os o=some x):Calls Tryz.prog 55 #[.pointer (some ⟨G.qp o,0,none⟩)] w fun e w'=>∃ sp cap,e=.returned (.slice sp x.q.length cap)/\w'.ownsRow w.heap.size 3 1 (.slice sp x.q.length cap) x.q.length ((Wt.keys x.q).map (Value.int .i64))/\Wt.Src w' sp (Wt.keys x.q)/\Below w.heap.size w w':=by
 obtain⟨own,h,y⟩:=h
 exact Wt.qlist_any (h.que o x hx (by omega)) rfl rfl
theorem k_try(h:St o0 w0 G w k){o:Nat}{x:Th}(hx:k.os o=some x)(who wh ah:Int)(av am:Nat)(aw:Int)(hw:0<=who/\who<=4294967295)(hv:av < 4294967296) :
  Calls Tryz.prog 58 #[.pointer (some ⟨G.op o,0,none⟩),.int .u32 who,.agg #[.int .u8 wh,.int .u32 ah,.int .u32 (av:Nat),.int .u32 (am:Nat),.int .i64 aw]] w fun e w'=>e=.returned (.tuple #[.int .u32 (Ob.tA x.x who wh av am).1,.int .i64 (Ob.tA x.x who wh av am).2.1])/\St o0 w0 G w' (k.setO o { x with x:=(Ob.tA x.x who wh av am).2.2 }):=by
 obtain⟨own,h,y⟩:=h
 obtain⟨h1,h5⟩:=h.obj o x hx (by omega)
 by_cases h6:x.x.k=6
 ·have e:Ob.tA x.x who wh av am=(0,1,x.x):=Ob.tA_bad (Or.inr (Or.inl h6))
  rw [e,setO_id hx]
  exact(try6 h5 h6 who wh ah av am aw hw).mono fun e w' ⟨he,hb⟩=>⟨he,_,h.below hb,y.trans (Below.ext hb 0)⟩
 refine(Ob.try_x h5 who wh ah av am aw hw hv).mono fun e w' ⟨he,hT,hb⟩=>⟨he,?_⟩
 have hoff:Off own (70+o) w w':=off_ob hb (by simp [h1.f h6,h1.g h6])
 exact⟨_,(h.off hoff).shutObj hx (try_kind _ _ _ _ _) ⟨h1.ext (h1.cl h5) (try_kind _ _ _ _ _).1 hT,hT⟩,y.trans (hoff.ext (by omega))⟩
theorem k_leave(h:St o0 w0 G w k){o:Nat}{x:Th}(hx:k.os o=some x)(who:Int)(hw:0<=who) :
  Calls Tryz.prog 104 #[.pointer (some ⟨G.op o,0,none⟩),.int .u32 who] w fun e w'=>e=.returned (.bool (Ob.lB x.x who))/\St o0 w0 G w' (k.setO o { x with x:=Ob.lT x.x who }):=by
 obtain⟨own,h,y⟩:=h
 obtain⟨h1,h5⟩:=h.obj o x hx (by omega)
 by_cases h6:x.x.k=6
 ·obtain⟨⟨e1,e2⟩,hC⟩:=leave6 h5 h6 who hw
  rw [e1,e2,setO_id hx]
  exact hC.mono fun e w' ⟨he,hb⟩=>by subst hb;exact⟨he,_,h,y⟩
 refine(Ob.leave_x h5 who hw).mono fun e w' ⟨he,hT,hb⟩=>⟨he,?_⟩
 have hoff:Off own (70+o) w w':=off_ob hb (by simp [h1.f h6,h1.g h6])
 exact⟨_,(h.off hoff).shutObj hx (leave_kind _ _) ⟨h1.ext (h1.cl h5) (leave_kind _ _).1 hT,hT⟩,y.trans (hoff.ext (by omega))⟩
theorem k_see(h:St o0 w0 G w k){o:Nat}{x:Th}(hx:k.os o=some x):Calls Tryz.prog 89 #[.pointer (some ⟨G.op o,0,none⟩)] w (Ob.Seen2 x.x w):=by
 obtain⟨own,h,y⟩:=h
 obtain⟨h1,h5⟩:=h.obj o x hx (by omega)
 exact Ob.see_x h5
theorem off_in(zs:List (Int×Int×Int))(who:Int):∀ z∈Tm.off zs who,z∈zs:=fun z hz=>(List.mem_filter.1 hz).1
theorem tickL_in{zs:List (Int×Int×Int)}{z:Int×Int×Int}(h:z∈Tm.tickL zs):∃ y∈zs,y.1=z.1:=by
 unfold Tm.tickL at h
 rcases List.mem_append.1 h with h | h
 ·unfold Tm.stay at h
  obtain⟨y,hy,rfl⟩:=List.mem_map.1 h
  exact⟨y,(List.mem_filter.1 hy).1,rfl⟩
 ·unfold Tm.agn at h
  obtain⟨y,hy,rfl⟩:=List.mem_map.1 h
  have hy2:=(List.mem_filter.1 hy).1
  unfold Tm.due at hy2
  exact⟨y,(List.mem_filter.1 hy2).1,rfl⟩
theorem off_nx{own:Nat->Nat}{w w':World}{mb tb:Nat}{v:Value}(hb:Tm.Buts (Tm.pts mb tb v) w w'){t:Nat}(h1:own mb=t)(h2:own tb=t)(hv:∀ g,v.ownBlock=some g->own g=t):Off own t w w' :=
 off_tm hb fun x hx=>by
  rcases Tm.mem_pts.1 hx with rfl | rfl | e
  ·exact h1
  ·exact h2
  ·exact hv x e
theorem KX.alarm{own:Nat->Nat}{w w':World}{G:Geo}{k:Kn}{n gl:Nat}{zs:List (Int×Int×Int)}{v v':Value}(h:KM own G w k)(hz:∀ z∈zs,0<=z.1/\∃ x,k.os z.1.toNat=some x)(h1:own G.ap=8)(h2:own G.mb=8)(h3:own G.tb=8)(h4:∀ g,v.ownBlock=some g->own g=8)(ha:Tm.Al 0 w G.ap G.mb G.tb G.an v k.al)(hA:Tm.Al 0 w' G.ap G.mb G.tb n v' zs)(hb:Tm.Buts (Tm.pts G.mb G.tb v) w w')(hv:∀ g,v'.ownBlock=some g->v.ownBlock=some g∨w.heap.size<=g)(hg:w.heap.size<=gl)(hne:∀ g,v'.ownBlock=some g->g≠gl) :
  KM (extG own G w w' 8 gl) { G with an:=n } w' { k with al:=zs }:=by
 have hoff:=off_nx hb h2 h3 h4
 have la:=at_lt ha.ax.blk
 have lm:=ha.ax.em.lt
 have lt:=at_lt ha.ax.ls.ch.head
 refine(h.offL hoff hg).shutAl hz ⟨(extG_ne (by omega)).trans ((ext_cl (Cl.of hA.ax.blk) la).trans h1),(extG_ne (by omega)).trans ((ext_ex (Or.inl rfl) lm).trans h2),(extG_ne (by omega)).trans ((ext_cl (Cl.of hA.ax.ls.ch.head) lt).trans h3),v',fun g hg=>(extG_ne (hne g hg)).trans ?_,hA⟩
 rcases hv g hg with c | c
 ·exact(ext_cl (own_cl hA.ax.ls.ch.own hg) (ha.ax.ls.ch.own.lt' c).2).trans (h4 g c)
 ·exact ext_new (own_cl hA.ax.ls.ch.own hg) c
theorem told_ne{w:World}{B n:Nat}{sp:Option Addr}{uc m:Nat}{xs:List Value}{v:Value}{ds:List (Int×Int)}(ho:w.ownsRow B 3 1 (.slice sp m uc) n xs)(hl:Tm.Own 0 w v ds){gl:Nat}(hgl:(Value.slice sp m uc).ownBlock=some gl){g:Nat}(hg:v.ownBlock=some g):g≠gl:=fun e=>by
 subst e
 obtain⟨cur,hc⟩:=hl.kind hg
 exact absurd rfl (block_ne ho hgl hc (by decide))
theorem k_atick(h:St o0 w0 G w k):Calls Tryz.prog 47 #[.pointer (some ⟨G.ap,0,none⟩)] w fun x w'=>∃ us uc,x=.returned (.slice us (Tm.due k.al).length uc)/\w'.ownsRow w.heap.size 3 1 (.slice us (Tm.due k.al).length uc) (Tm.due k.al).length (num ((Tm.due k.al).map Prod.fst))/\∃ own',St own' w' G w' { k with al:=Tm.tickL k.al }/\Ext o0 own' w0 w'/\∀ g,(Value.slice us (Tm.due k.al).length uc).ownBlock=some g->own' g=0:=by
 obtain⟨own,h,x⟩:=h
 obtain⟨h1,h2,h3,v,h4,ha⟩:=h.al (by decide)
 refine(Tm.atick_is ha (Nat.zero_le _)).mono fun e w' ⟨us,uc,he,ho,v',hA,hb,hv⟩=>?_
 obtain⟨gl,hgl,hgm⟩:∃ gl,w.heap.size<=gl/\((∀ g,(Value.slice us (Tm.due k.al).length uc).ownBlock=some g->g=gl)/\∀ g,v'.ownBlock=some g->g≠gl):=by
  cases hq:(Value.slice us (Tm.due k.al).length uc).ownBlock with
  | some gl=>exact⟨gl,(World.ownsRow.lt ho gl hq).1,fun g hg=>(Option.some.inj hg).symm,fun g hg=>told_ne ho hA.ax.ls.ch.own hq hg⟩
  | none=>exact⟨w'.heap.size,(off_nx hb h2 h3 h4).size,fun g hg=>(by cases hg),fun g hg=>by have:=(hA.ax.ls.ch.own.lt' hg).2;omega⟩
 refine⟨us,uc,he,ho,_,⟨_,KX.alarm (n:=G.an) (gl:=gl) h (fun z hz=>?_) h1 h2 h3 h4 ha hA hb hv hgl hgm.2,Ext.refl _ _⟩,x.trans ((off_nx hb h2 h3 h4).extG (by decide) hgl),fun g hg=>?_⟩
 ·obtain⟨y,hy,e⟩:=tickL_in hz
  rw [←e]
  exact h.xs.al y hy
 ·rw [hgm.1 g hg];exact if_pos rfl
end
end Go.Proofs.YtbbdndfibjdcfaaGreat
namespace Go.Proofs.YtbbdndfibjdcfaaGreat
open Go Go.RowKit
theorem wr_succ(a:Int):wrap64 (wr a+1)=wr (a+1):=by
 unfold wr wrap64
 omega
section
variable {o0:Nat->Nat} {w0 w w':World} {G:Geo} {k:Kn}
theorem there_any(h:St o0 w0 G w k)(hs:1<=k.sl):Calls Tryz.prog 41 #[.pointer (some ⟨G.kp,0,none⟩)] w fun e w'=>e=.returned (.bool true)/\w=w':=by
 have c0:=h.c0
 have hlt:0 < k.sl:=by omega
 clear h
 generalize G.kp=p at *
 generalize k.sl=s at *
 go_enter Tryz.func41,Tryz.ntmps41
 go_wp2
 go_ret
 exact⟨rfl,rfl⟩
theorem there_nil:Calls Tryz.prog 41 #[.pointer none] w fun e w'=>e=.returned (.bool false)/\w=w':=by
 go_enter Tryz.func41,Tryz.ntmps41
 go_wp2
 go_ret
 exact⟨rfl,rfl⟩
def Ta.may(t:Ta):Bool:=decide (t.st=1) && !t.held
theorem mayRun_any(h:St o0 w0 G w k){i:Nat}{t:Ta}(ht:k.ts i=some t):Calls Tryz.prog 108 #[.pointer (some ⟨G.tp i,0,none⟩)] w fun e w'=>e=.returned (.bool t.may)/\w=w':=by
 have c1:=h.d1 ht
 have c2:=h.d2 ht
 unfold Ta.may
 clear h ht
 generalize G.tp i=p at *
 obtain⟨_,st,held,_,_,_,_,_,_,_,_,_,_,_,_,_,_⟩:=t
 simp only at c1 c2 ⊢
 by_cases hs:st=1
 ·subst hs
  cases held
  ·go_enter Tryz.func108,Tryz.ntmps108
   go_wp2
   go_ret
   exact⟨rfl,rfl⟩
  ·go_enter Tryz.func108,Tryz.ntmps108
   go_wp2
   go_ret
   exact⟨rfl,rfl⟩
 ·have e:(decide (st=1) && !held)=false:=by simp [hs]
  rw [e]
  clear e
  go_enter Tryz.func108,Tryz.ntmps108
  go_wp2
  go_ret
  exact⟨rfl,rfl⟩
def joinC(k:Kn)(i:Nat):Kn:=match k.ts i with | some t=>if t.may then join k i else k | none=>k
theorem join_any(h:St o0 w0 G w k){i:Nat}{t:Ta}(ht:k.ts i=some t):Calls Tryz.prog 68 #[.pointer (some ⟨G.kp,0,none⟩),.pointer (some ⟨G.tp i,0,none⟩)] w fun e w'=>e=.returned (.tuple #[])/\St o0 w0 G w' (joinC k i):=by
 have HM:=mayRun_any h ht
 cases hm:t.may with
 | false =>
  have e:joinC k i=k:=by unfold joinC;rw [ht];simp [hm]
  rw [e]
  rw [hm] at HM
  have HS:Hid (St o0 w0 G w k):=h
  clear h ht hm e
  go_enter Tryz.func68,Tryz.ntmps68
  go_wp2_with (first |(go_at_call 108;refine HM.mono ?_;rintro e wx ⟨rfl,rfl⟩))
  (first | go_end0 |(simp only [Exit.inBlock,Exit.then];refine bodyPost_ret (results_none rfl _ _ _) rfl ?_) | refine bodyPost_ret (results_none rfl _ _ _) rfl ?_)
  exact⟨rfl,HS.out⟩
 | true =>
  have e:joinC k i=join k i:=by unfold joinC;rw [ht];simp [hm]
  rw [e]
  rw [hm] at HM
  have HT:Hid (k.ts i=some t):=ht
  have c6:=h.c6
  have d14:=h.d14 ht
  have HR:Hid (Calls Tryz.prog 69 #[.pointer (some ⟨G.rp,0,none⟩),.int .i64 i] w.drew fun e w'=>(∃ x,e=.returned (.int .i64 x))/\St o0 w0 G w' { k with rd:=Rd.rmX k.rd i }):=k_remove h.drew _
  clear h ht hm e
  go_enter Tryz.func68,Tryz.ntmps68
  go_wp2_with (first |(go_at_call 108;refine HM.mono ?_;rintro e wx ⟨rfl,rfl⟩))
  go_region_held3 (fun w'=>w'.cell? ⟨G.kp,6,none⟩=some (.pointer (some ⟨G.rp,0,none⟩))/\w'.cell? ⟨G.tp i,14,none⟩=some (.int .i64 (i:Nat))) (go_keep) (first
   |(go_at_call 69;refine HR.out.mono ?_;rintro e w1 ⟨⟨x,rfl⟩,h1⟩;have S1:Hid (St o0 w0 G w1 { k with rd:=Rd.rmX k.rd i }):=h1;have zh1c6:=h1.c6;have zh1d14:=h1.d14 HT.out;have zh1d4:=h1.d4 HT.out;clear h1)
   | fail)
  go_wp2
  go_region_held3 (fun w'=>w'.cell? ⟨G.kp,6,none⟩=some (.pointer (some ⟨G.rp,0,none⟩))/\w'.cell? ⟨G.tp i,14,none⟩=some (.int .i64 (i:Nat))/\w'.cell? ⟨G.tp i,4,none⟩=some (.int .i64 t.rank)) (go_keep) (first
   |(go_at_call 109;refine(k_put S1.out.drew _ _).mono ?_;rintro e w2 ⟨⟨y,rfl⟩,h2⟩;have S2:Hid (St o0 w0 G w2 { k with rd:=Rd.putX (Rd.rmX k.rd i) i t.rank }):=h2;have zh2c6:=h2.c6;have zh2d14:=h2.d14 HT.out;have zh2d4:=h2.d4 HT.out;have zh2d15:=h2.d15 HT.out;have f15:=h2.tfree HT.out 15;clear h2)
   | fail)
  go_wp2
  go_end0
  refine⟨rfl,?_⟩
  have e:join k i=Kn.setT { k with rd:=Rd.putX (Rd.rmX k.rd i) i t.rank } i { t with ran:=0 }:=by unfold join;rw [HT.out];rfl
  rw [e]
  exact S2.out.setT HT.out 15 _ _ rfl rfl rfl
def restC(k:Kn)(i:Nat):Kn:=match k.ts i with | some t=>{ k with rd:=Rd.rmX k.rd (i:Int),os:=unq k.os i t.on,ts:=set1 k.ts i (some t.idle) } | none=>k
theorem restC_no{i:Nat}{t:Ta}(ht:k.ts i=some t)(ho:¬ 0<=t.on):restC k i=Kn.setT { k with rd:=Rd.rmX k.rd (i:Int) } i t.idle:=by
 have e:unq k.os i t.on=k.os:=by unfold unq;exact if_neg ho
 unfold restC
 simp only [ht,e]
 rfl
theorem restC_yes{i:Nat}{t:Ta}(ht:k.ts i=some t)(ho:0<=t.on){x:Th}(hx:k.os t.on.toNat=some x):restC k i=Kn.setT (Kn.setO { k with rd:=Rd.rmX k.rd (i:Int) } t.on.toNat { x with q:=Wt.gone x.q i }) i t.idle:=by
 have e:unq k.os i t.on=set1 k.os t.on.toNat (some { x with q:=Wt.gone x.q i }):=by unfold unq;rw [if_pos ho,hx]
 unfold restC
 simp only [ht,e]
 rfl
theorem onP_no{G:Geo}{on:Int}(h:¬ 0<=on):onP G on=.pointer none:=if_neg h
theorem onP_yes{G:Geo}{on:Int}(h:0<=on):onP G on=.pointer (some ⟨G.xp on.toNat,0,none⟩):=if_pos h
theorem rest_any(h:St o0 w0 G w k){i:Nat}{t:Ta}(ht:k.ts i=some t)(hon:0<=t.on->∃ x,k.os t.on.toNat=some x):Calls Tryz.prog 62 #[.pointer (some ⟨G.kp,0,none⟩),.pointer (some ⟨G.tp i,0,none⟩)] w fun e w'=>e=.returned (.tuple #[])/\St o0 w0 G w' (restC k i):=by
 have HT:Hid (k.ts i=some t):=ht
 have c6:=h.c6
 have d14:=h.d14 ht
 have HR:Hid (Calls Tryz.prog 69 #[.pointer (some ⟨G.rp,0,none⟩),.int .i64 i] w.drew fun e w'=>(∃ x,e=.returned (.int .i64 x))/\St o0 w0 G w' { k with rd:=Rd.rmX k.rd i }):=k_remove h.drew _
 by_cases ho:0<=t.on
 ·obtain⟨x,hx⟩:=hon ho
  have HX:Hid (k.os t.on.toNat=some x):=hx
  have HO:Hid (onP G t.on=.pointer (some ⟨G.xp t.on.toNat,0,none⟩)):=onP_yes ho
  have HE:Hid (restC k i=Kn.setT (Kn.setO { k with rd:=Rd.rmX k.rd (i:Int) } t.on.toNat { x with q:=Wt.gone x.q i }) i t.idle):=restC_yes ht ho hx
  clear ht h hx hon
  generalize t.on.toNat=o at *
  go_enter Tryz.func62,Tryz.ntmps62
  go_wp2
  go_region_held3 (fun w'=>w'.cell? ⟨G.kp,6,none⟩=some (.pointer (some ⟨G.rp,0,none⟩))/\w'.cell? ⟨G.tp i,14,none⟩=some (.int .i64 (i:Nat))) (go_keep) (first
   |(go_at_call 69;refine HR.out.mono ?_;rintro e w1 ⟨⟨y,rfl⟩,h1⟩;have S1:Hid (St o0 w0 G w1 { k with rd:=Rd.rmX k.rd i }):=h1;have zh1c6:=h1.c6;have zh1c7:=h1.c7;have zh1d14:=h1.d14 HT.out;clear h1)
   | fail)
  go_wp2
  go_region_held3 (fun w'=>w'.cell? ⟨G.kp,7,none⟩=some (.pointer (some ⟨G.ep,0,none⟩))/\w'.cell? ⟨G.tp i,14,none⟩=some (.int .i64 (i:Nat))) (go_keep) (first
   |(go_at_call 96;refine(k_dremove S1.out.drew HT.out).mono ?_;rintro e w2 ⟨⟨y,rfl⟩,h2⟩;have S2:Hid (St o0 w0 G w2 (Kn.setT { k with rd:=Rd.rmX k.rd i } i { t with left:=0 })):=h2;have HT2:Hid ((Kn.setT { k with rd:=Rd.rmX k.rd i } i { t with left:=0 }).ts i=some { t with left:=0 }):=set1_at _ _ _;have zh2c7:=h2.c7;have zh2d14_i:=h2.d14 HT2.out;have z16:w2.cell? ⟨G.tp i,16,none⟩=some (.pointer (some ⟨G.xp o,0,none⟩)):=(h2.d16 HT2.out).trans (congrArg some HO.out);have z6:=h2.e6 HX.out;clear h2)
   | fail)
  go_wp2
  go_region_held3 (fun w'=>w'.cell? ⟨G.tp i,14,none⟩=some (.int .i64 (i:Nat))/\w'.cell? ⟨G.xp o,6,none⟩=some (.pointer (some ⟨(G.qp o),0,none⟩))/\w'.cell? ⟨G.tp i,16,none⟩=some (.pointer (some ⟨G.xp o,0,none⟩))) (go_keep) (first
   |(go_at_call 103;refine(k_wremove S2.out.drew HX.out _).mono ?_;rintro e w3 ⟨⟨y,rfl⟩,h3⟩;have S3:Hid (St o0 w0 G w3 (Kn.setO (Kn.setT { k with rd:=Rd.rmX k.rd i } i { t with left:=0 }) o { x with q:=Wt.gone x.q i })):=h3;have HT3:Hid ((Kn.setO (Kn.setT { k with rd:=Rd.rmX k.rd i } i { t with left:=0 }) o { x with q:=Wt.gone x.q i }).ts i=some { t with left:=0 }):=set1_at _ _ _;have HX3:Hid ((Kn.setO (Kn.setT { k with rd:=Rd.rmX k.rd i } i { t with left:=0 }) o { x with q:=Wt.gone x.q i }).os o=some { x with q:=Wt.gone x.q i }):=set1_at _ _ _;have zh3d14_i:=h3.d14 HT3.out;have y16:w3.cell? ⟨G.tp i,16,none⟩=some (.pointer (some ⟨G.xp o,0,none⟩)):=(h3.d16 HT3.out).trans (congrArg some HO.out);have z6:=h3.e6 HX3.out;have f5:=h3.tfree HT3.out 5;have f6:=h3.tfree HT3.out 6;have f7:=h3.tfree HT3.out 7;have f8:=h3.tfree HT3.out 8;have f9:=h3.tfree HT3.out 9;have f16:=h3.tfree HT3.out 16;have y5:=h3.d5 HT3.out;have y6:=h3.d6 HT3.out;have y7:=h3.d7 HT3.out;have y8:=h3.d8 HT3.out;have y9:=h3.d9 HT3.out;clear h3)
   | fail)
  go_wp2
  go_end0
  refine⟨rfl,?_⟩
  rw [HE.out]
  have:=S3.out.setL HT3.out [(16,.pointer none),(5,.int .u8 0),(6,.int .u32 0),(7,.int .u32 0),(8,.int .u32 0),(9,.int .i64 0)] t.idle rfl rfl rfl
  rw [setT_setO,setT_setT] at this
  exact this
 ·have HO:Hid (onP G t.on=.pointer none):=onP_no ho
  have HE:Hid (restC k i=Kn.setT { k with rd:=Rd.rmX k.rd (i:Int) } i t.idle):=restC_no ht ho
  clear ht h hon
  go_enter Tryz.func62,Tryz.ntmps62
  go_wp2
  go_region_held3 (fun w'=>w'.cell? ⟨G.kp,6,none⟩=some (.pointer (some ⟨G.rp,0,none⟩))/\w'.cell? ⟨G.tp i,14,none⟩=some (.int .i64 (i:Nat))) (go_keep) (first
   |(go_at_call 69;refine HR.out.mono ?_;rintro e w1 ⟨⟨y,rfl⟩,h1⟩;have S1:Hid (St o0 w0 G w1 { k with rd:=Rd.rmX k.rd i }):=h1;have zh1c6:=h1.c6;have zh1c7:=h1.c7;have zh1d14:=h1.d14 HT.out;clear h1)
   | fail)
  go_wp2
  go_region_held3 (fun w'=>w'.cell? ⟨G.kp,7,none⟩=some (.pointer (some ⟨G.ep,0,none⟩))/\w'.cell? ⟨G.tp i,14,none⟩=some (.int .i64 (i:Nat))) (go_keep) (first
   |(go_at_call 96;refine(k_dremove S1.out.drew HT.out).mono ?_;rintro e w2 ⟨⟨y,rfl⟩,h2⟩;have S2:Hid (St o0 w0 G w2 (Kn.setT { k with rd:=Rd.rmX k.rd i } i { t with left:=0 })):=h2;have HT2:Hid ((Kn.setT { k with rd:=Rd.rmX k.rd i } i { t with left:=0 }).ts i=some { t with left:=0 }):=set1_at _ _ _;have zh2c7:=h2.c7;have zh2d14_i:=h2.d14 HT2.out;have z16:w2.cell? ⟨G.tp i,16,none⟩=some (.pointer none):=(h2.d16 HT2.out).trans (congrArg some HO.out);have f5:=h2.tfree HT2.out 5;have f6:=h2.tfree HT2.out 6;have f7:=h2.tfree HT2.out 7;have f8:=h2.tfree HT2.out 8;have f9:=h2.tfree HT2.out 9;have f16:=h2.tfree HT2.out 16;have y5:=h2.d5 HT2.out;have y6:=h2.d6 HT2.out;have y7:=h2.d7 HT2.out;have y8:=h2.d8 HT2.out;have y9:=h2.d9 HT2.out;clear h2)
   | fail)
  go_wp2
  go_end0
  refine⟨rfl,?_⟩
  rw [HE.out]
  have:=S2.out.setL HT2.out [(16,.pointer none),(5,.int .u8 0),(6,.int .u32 0),(7,.int .u32 0),(8,.int .u32 0),(9,.int .i64 0)] t.idle rfl rfl rfl
  rw [setT_setT] at this
  exact this
end
end Go.Proofs.YtbbdndfibjdcfaaGreat
namespace Go.Proofs.YtbbdndfibjdcfaaGreat
open Go Go.RowKit
section
variable {o0:Nat->Nat} {w0 w w':World} {G:Geo} {k:Kn}
def answerC(k:Kn)(i:Nat)(e v:Int):Kn :=
 match k.ts i with
 | some t=>if t.st=2 then joinC ((restC (k.setT i (t.told e v)) i).setT i { (t.told e v).idle with st:=1 }) i else k.setT i (t.told e v)
 | none=>k
theorem restC_at(k:Kn){i:Nat}{t:Ta}(ht:k.ts i=some t):(restC k i).ts i=some t.idle:=by unfold restC;simp only [ht];exact set1_at _ _ _
theorem answer_any(h:St o0 w0 G w k){i:Nat}{t:Ta}(ht:k.ts i=some t)(hon:0<=t.on->∃ x,k.os t.on.toNat=some x)(er v:Int):Calls Tryz.prog 56 #[.pointer (some ⟨G.kp,0,none⟩),.pointer (some ⟨G.tp i,0,none⟩),.int .i64 er,.int .u32 v] w fun e w'=>e=.returned (.tuple #[])/\St o0 w0 G w' (answerC k i er v):=by
 have HS:Hid (St o0 w0 G w k):=h
 have HT:Hid (k.ts i=some t):=ht
 have HW:Hid (wrap64 (wr t.ans+1)=wr (t.ans+1)):=wr_succ _
 have z1:=h.d1 ht
 have z11:=h.d11 ht
 have z12:=h.d12 ht
 have z13:=h.d13 ht
 have f11:=h.tfree ht 11
 have f12:=h.tfree ht 12
 have f13:=h.tfree ht 13
 have HL:Hid (St o0 w0 G (sets w (G.tp i) [(11,.int .i64 (wrap64 (wr t.ans+1))),(12,.int .i64 er),(13,.int .u32 v)]) (k.setT i (t.told er v))):=by
  refine h.setL ht _ _ rfl rfl ?_
  rw [wr_succ]
  rfl
 have HA:Hid (answerC k i er v=if t.st=2 then joinC ((restC (k.setT i (t.told er v)) i).setT i { (t.told er v).idle with st:=1 }) i else k.setT i (t.told er v)):=show _=_ by unfold answerC;simp only [ht]
 by_cases hs:t.st=2
 ·rw [hs] at z1
  rw [if_pos hs] at HA
  have HH:Hid (∃ y,y=0):=⟨0,rfl⟩
  have HRS:Hid (∀ wx,St o0 w0 G wx (k.setT i (t.told er v))->Calls Tryz.prog 62 #[.pointer (some ⟨G.kp,0,none⟩),.pointer (some ⟨G.tp i,0,none⟩)] wx fun e w'=>e=.returned (.tuple #[])/\St o0 w0 G w' (restC (k.setT i (t.told er v)) i)):=fun wx hx=>rest_any hx (setT_at _ _ _) hon
  have HRT:Hid ((restC (k.setT i (t.told er v)) i).ts i=some (t.told er v).idle):=restC_at _ (setT_at _ _ _)
  clear h ht hon hs
  go_enter Tryz.func56,Tryz.ntmps56
  go_wp2_with (first
   |(go_at_call 62;refine(HRS.out _ HL.out).mono ?_;rintro e w2 ⟨rfl,h2⟩;have S2:Hid (St o0 w0 G w2 (restC (k.setT i (t.told er v)) i)):=h2;have y1:=h2.d1 HRT.out;have g1:=h2.tfree HRT.out 1;have S3:Hid (St o0 w0 G (w2.setCell ⟨G.tp i,1,none⟩ (.int .u8 1)) ((restC (k.setT i (t.told er v)) i).setT i { (t.told er v).idle with st:=1 })):=h2.setT HRT.out 1 _ _ rfl rfl rfl;clear h2)
   |(go_at_call 68;refine(join_any S3.out (setT_at _ _ _)).mono ?_;rintro e w4 ⟨rfl,h4⟩;have S4:Hid (St o0 w0 G w4 (joinC ((restC (k.setT i (t.told er v)) i).setT i { (t.told er v).idle with st:=1 }) i)):=h4;clear h4))
  go_end0
  refine⟨rfl,?_⟩
  rw [HA.out]
  exact S4.out
 ·have hs':(t.st == 2)=false:=by simpa using hs
  rw [if_neg hs] at HA
  clear h ht hon
  go_enter Tryz.func56,Tryz.ntmps56
  go_wp2
  go_end0
  refine⟨rfl,?_⟩
  rw [HA.out]
  exact HL.out
def runP(G:Geo)(k:Kn):Value:=if Rd.fsb k.rd then tPt G k.ts (Rd.fsv k.rd).toNat else .pointer none
theorem running_any(h:St o0 w0 G w k)(hr:Rd.fsb k.rd=true->0<=Rd.fsv k.rd/\Rd.fsv k.rd < 16):Calls Tryz.prog 65 #[.pointer (some ⟨G.kp,0,none⟩)] w fun e w'=>e=.returned (runP G k)/\St o0 w0 G w' k/\Below w.heap.size w w':=by
 have c6:=h.c6
 have HF:=k_first h
 unfold runP
 cases hb:Rd.fsb k.rd with
 | true =>
  obtain⟨h0,h1⟩:=hr hb
  obtain⟨n,hn⟩:=Int.eq_ofNat_of_zero_le h0
  rw [hb,hn] at HF
  rw [hn] at h1
  have hlt:n < 16:=by omega
  rw [hn]
  have HLT:Hid (n < 16):=hlt
  clear h hb hr h0 hn
  go_enter Tryz.func65,Tryz.ntmps65
  go_wp2_with (first |(go_at_call 106;refine HF.mono ?_;rintro e w1 ⟨rfl,h1,hb1⟩;have S1:Hid (St o0 w0 G w1 k):=h1;have B1:Hid (Below w.heap.size w w1):=hb1;clear hb1;have y3:=h1.c3;have ya:=h1.tat HLT.out;clear h1))
  go_ret
  exact⟨rfl,S1.out,B1.out⟩
 | false =>
  rw [hb] at HF
  generalize Rd.fsv k.rd=z at *
  clear h hr hb
  go_enter Tryz.func65,Tryz.ntmps65
  go_wp2_with (first |(go_at_call 106;refine HF.mono ?_;rintro e w1 ⟨rfl,h1,hb1⟩;have S1:Hid (St o0 w0 G w1 k):=h1;have B1:Hid (Below w.heap.size w w1):=hb1;clear hb1;clear h1))
  go_ret
  exact⟨rfl,S1.out,B1.out⟩
theorem k_place(h:St o0 w0 G w k)(z:Nat)(hz:z<=4294967295):Calls Tryz.prog 91 #[.pointer (some ⟨G.tn,0,none⟩),.int .u32 (z:Nat)] w fun e w'=>e=.returned (.tuple #[.int .i64 (Hd.placeP k.th z:Nat),.int .i64 (Hd.placeE k.th z)])/\St o0 w0 G w' k/\Below w.heap.size w w':=by
 have h':=h
 obtain⟨own,h,x⟩:=h
 exact(Hd.place_any (h.tn (by decide)).2 z hz).mono fun e w' ⟨he,hb⟩=>⟨he,h'.below hb,hb⟩
theorem k_oplace(h:St o0 w0 G w k)(z:Nat)(hz:z<=4294967295):Calls Tryz.prog 91 #[.pointer (some ⟨G.on,0,none⟩),.int .u32 (z:Nat)] w fun e w'=>e=.returned (.tuple #[.int .i64 (Hd.placeP k.oh z:Nat),.int .i64 (Hd.placeE k.oh z)])/\St o0 w0 G w' k/\Below w.heap.size w w':=by
 have h':=h
 obtain⟨own,h,x⟩:=h
 exact(Hd.place_any (h.on (by decide)).2 z hz).mono fun e w' ⟨he,hb⟩=>⟨he,h'.below hb,hb⟩
theorem tfind_any(h:St o0 w0 G w k)(z:Nat)(hz:z<=4294967295)(hi:Hd.placeE k.th z=0->Hd.placeP k.th z < 16):Calls Tryz.prog 102 #[.pointer (some ⟨G.kp,2,none⟩),.int .u32 (z:Nat)] w fun e w'=>e=.returned (.tuple #[if Hd.placeE k.th z=0 then tPt G k.ts (Hd.placeP k.th z) else .pointer none,.int .i64 (Hd.placeE k.th z)])/\St o0 w0 G w' k/\Below w.heap.size w w':=by
 have c2:=h.c2
 have HP:=k_place h z hz
 by_cases he:Hd.placeE k.th z=0
 ·rw [if_pos he,he]
  rw [he] at HP
  have HLT:Hid (Hd.placeP k.th z < 16):=hi he
  have hlt:((Hd.placeP k.th z:Nat):Int) < 16:=by have:=HLT.out;omega
  clear h hi he
  generalize Hd.placeP k.th z=n at *
  go_enter Tryz.func102,Tryz.ntmps102
  go_wp2_with (first |(go_at_call 91;refine HP.mono ?_;rintro e w1 ⟨rfl,h1,hb1⟩;have S1:Hid (St o0 w0 G w1 k):=h1;have B1:Hid (Below w.heap.size w w1):=hb1;clear hb1;have y3:=h1.c3;have ya:=h1.tat HLT.out;clear h1))
  go_ret2
  exact⟨rfl,S1.out,B1.out⟩
 ·rw [if_neg he]
  have he':(Hd.placeE k.th z == 0)=false:=by simpa using he
  clear h hi
  generalize Hd.placeP k.th z=n at *
  generalize Hd.placeE k.th z=er at *
  go_enter Tryz.func102,Tryz.ntmps102
  go_wp2_with (first |(go_at_call 91;refine HP.mono ?_;rintro e w1 ⟨rfl,h1,hb1⟩;have S1:Hid (St o0 w0 G w1 k):=h1;have B1:Hid (Below w.heap.size w w1):=hb1;clear hb1;clear h1))
  go_ret2
  exact⟨rfl,S1.out,B1.out⟩
theorem xfind_any(h:St o0 w0 G w k)(z:Nat)(hz:z<=4294967295)(hi:Hd.placeE k.oh z=0->Hd.placeP k.oh z < 32):Calls Tryz.prog 50 #[.pointer (some ⟨G.kp,4,none⟩),.int .u32 (z:Nat)] w fun e w'=>e=.returned (.tuple #[if Hd.placeE k.oh z=0 then oPt G k.os (Hd.placeP k.oh z) else .pointer none,.int .i64 (Hd.placeE k.oh z)])/\St o0 w0 G w' k/\Below w.heap.size w w':=by
 have c4:=h.c4
 have HP:=k_oplace h z hz
 by_cases he:Hd.placeE k.oh z=0
 ·rw [if_pos he,he]
  rw [he] at HP
  have HLT:Hid (Hd.placeP k.oh z < 32):=hi he
  have hlt:((Hd.placeP k.oh z:Nat):Int) < 32:=by have:=HLT.out;omega
  clear h hi he
  generalize Hd.placeP k.oh z=n at *
  go_enter Tryz.func50,Tryz.ntmps50
  go_wp2_with (first |(go_at_call 91;refine HP.mono ?_;rintro e w1 ⟨rfl,h1,hb1⟩;have S1:Hid (St o0 w0 G w1 k):=h1;have B1:Hid (Below w.heap.size w w1):=hb1;clear hb1;have y3:=h1.c5;have ya:=h1.oat HLT.out;clear h1))
  go_ret2
  exact⟨rfl,S1.out,B1.out⟩
 ·rw [if_neg he]
  have he':(Hd.placeE k.oh z == 0)=false:=by simpa using he
  clear h hi
  generalize Hd.placeP k.oh z=n at *
  generalize Hd.placeE k.oh z=er at *
  go_enter Tryz.func50,Tryz.ntmps50
  go_wp2_with (first |(go_at_call 91;refine HP.mono ?_;rintro e w1 ⟨rfl,h1,hb1⟩;have S1:Hid (St o0 w0 G w1 k):=h1;have B1:Hid (Below w.heap.size w w1):=hb1;clear hb1;clear h1))
  go_ret2
  exact⟨rfl,S1.out,B1.out⟩
end
end Go.Proofs.YtbbdndfibjdcfaaGreat
namespace Go.Proofs.YtbbdndfibjdcfaaGreat
open Go Go.RowKit Go.Shelf
attribute [local go_sem] Oper.semAt_some
structure KA (a:Nat) (W W':World):Prop where
 size:W.heap.size<=W'.heap.size
 row:∀ (cs:Array Value) (ty:TypeId) (f:Nat×Nat),W.heap[a]?=some (.cells cs ty f)->W'.heap[a]?=some (.cells cs ty f)
theorem KA.refl(a:Nat)(W:World):KA a W W:=⟨Nat.le_refl _,fun _ _ _ h=>h⟩
theorem KA.trans{a:Nat}{A B C:World}(h:KA a A B)(k:KA a B C):KA a A C:=⟨Nat.le_trans h.size k.size,fun cs ty f hc=>k.row cs ty f (h.row cs ty f hc)⟩
theorem ka_b{a n:Nat}(W:World)(l:Nat)(o o':Obj)(hl:n<=l)(h:W.heap[l]?=some o)(ho:o.isCells=false)(_:o.isWalk=false):KA a W (W.putObj l o'):=by
 have hg:=grownBy_putObj' W l o'
 refine⟨hg.size,fun cs ty f hk=>?_⟩
 rw [hg.block a (at_lt hk) (fun e=>?_)]
 ·exact hk
 ·rw [Option.some.injEq] at e
  subst e
  rw [h] at hk
  cases hk
  cases ho
def Arr(w:World)(a:Nat)(N:Nat)(f:Nat->Nat)(b:Nat->Bool)(ty:TypeId):Prop:=∃ cs,w.heap[a]?=some (.cells cs ty (0,0))/\∀ i,i < N->cs[i]?=some (if b i then .pointer (some ⟨f i,0,none⟩) else .pointer none)
theorem Arr.below{w w':World}{a N:Nat}{f:Nat->Nat}{b:Nat->Bool}{ty:TypeId}(h:Arr w a N f b ty)(hb:Below w.heap.size w w'):Arr w' a N f b ty:=by
 obtain⟨cs,h1,h2⟩:=h
 exact⟨cs,(hb.block a (at_lt h1)).trans h1,h2⟩
theorem Arr.ka{w w':World}{a N:Nat}{f:Nat->Nat}{b:Nat->Bool}{ty:TypeId}(h:Arr w a N f b ty)(hb:KA a w w'):Arr w' a N f b ty:=by
 obtain⟨cs,h1,h2⟩:=h
 exact⟨cs,hb.row _ _ _ h1,h2⟩
theorem Arr.at{w:World}{a N:Nat}{f:Nat->Nat}{b:Nat->Bool}{ty:TypeId}(h:Arr w a N f b ty){i:Nat}(hi:i < N):w.cell? ⟨a,i,none⟩=some (if b i then .pointer (some ⟨f i,0,none⟩) else .pointer none):=by
 obtain⟨cs,h1,h2⟩:=h
 rw [cell_of h1]
 exact h2 i hi
theorem range_filter_snoc(b:Nat->Bool)(i:Nat):(List.range (i+1)).filter b=(List.range i).filter b ++ (if b i then [i] else []):=by
 rw [List.range_succ,List.filter_append]
 congr 1
 simp only [List.filter_cons,List.filter_nil]
theorem filter_le(b:Nat->Bool)(i:Nat):((List.range i).filter b).length<=i:=by
 have:=List.length_filter_le b (List.range i)
 simpa using this
theorem filter_prefix(b:Nat->Bool){i N:Nat}(h:i<=N):(List.range i).filter b <+: (List.range N).filter b:=by
 obtain⟨d,rfl⟩:=Nat.exists_eq_add_of_le h
 induction d with
 | zero=>exact List.prefix_refl _
 | succ d ih=>exact(ih (by omega)).trans (by rw [←Nat.add_assoc,range_filter_snoc];exact List.prefix_append _ _)
abbrev Pl(N:Nat)(b:Nat->Bool):={ i:Nat // i < N/\b i=true }
theorem tall_any(p:Option Addr)(w:World) :
  Calls Tryz.prog 42 #[.pointer p] w fun e w'=>e=.returned (.func (.func 82) #[] #[.pointer (some ⟨w.heap.size,0,none⟩)])/\w'=w.alloc (.cells #[.pointer p] 162):=by
 go_enter Tryz.func42,Tryz.ntmps42
 go_wp2
 go_ret
 exact⟨by simp,rfl⟩
theorem tseq_stops(n:Nat)(hn:1<=n)(bx kp a:Nat)(f:Nat->Nat)(b:Nat->Bool)(w:World)(hbx:w.cell? ⟨bx,0,none⟩=some (.pointer (some ⟨kp,2,none⟩)))(hs:w.cell? ⟨kp,3,none⟩=some (.slice (some ⟨a,0,none⟩) 16 16))(hA:Arr w a 16 f b 109) :
  SeqStopsK Fence.wide n Tryz.prog 82 #[.pointer (some ⟨bx,0,none⟩)] (fun i:Pl 16 b=>#[Value.pointer (some ⟨f i.1,0,none⟩)]) (KA a) (fun ys=>ys.map Subtype.val=(List.range 16).filter b) (fun pre=>pre.map Subtype.val <+: (List.range 16).filter b) 16 w:=fun l J Jx W hW hJ _ hY h0=>by
 have hbx':=(hW.cell (p:=⟨bx,0,none⟩) (cell_lt hbx)).trans hbx
 have hs':=(hW.cell (p:=⟨kp,3,none⟩) (cell_lt hs)).trans hs
 have HA:Hid (Arr W a 16 f b 109):=hA.below hW
 have H0:Hid (J [] W):=h0
 clear hA hbx hs hW h0 hJ
 refine callsIn_of_wp Tryz.func82 rfl trivial ?_ rfl
 simp only [Tryz.ntmps82,List.size_toArray,List.length_cons,List.length_nil,Nat.reduceAdd,Nat.reduceSub,Array.replicate_succ,Array.replicate_zero,List.push_toArray,List.append_toArray,List.nil_append,List.cons_append]
 gi_wp2
 gi_loopw [10] (fun s wr=>∃ i:Nat,s=.int .i64 (i:Int)/\i<=16/\Hid (∃ pre:List (Pl 16 b),pre.map Subtype.val=(List.range i).filter b/\J pre wr)/\Hid (KA a W wr))
  (fun s wr=>match s with | .int _ i=>16 - i.toNat | _=>0)
 case atStart =>
  exact⟨0,rfl,by omega,⟨[],rfl,H0.out⟩,KA.refl _ _⟩
 case round =>
  obtain⟨i,rfl,hi,HJ,HK⟩:=hrel
  by_cases him:i=16
  ·have hlt:¬ ((i:Int) < 16):=by omega
   gi_wp2
   go_end0
   refine⟨⟨_,rfl⟩,.inl ?_⟩
   obtain⟨pre,hp,hJ⟩:=HJ.out
   rw [him] at hp
   exact⟨pre,hp,hJ⟩
  ·have hil:i < 16:=by omega
   have hlt:(i:Int) < 16:=by omega
   have c1:=(HA.out.ka HK.out).at hil
   have hwk:IntKind.i64.wrap ((i:Int)+1)=(i:Int)+1:=by rw [IntKind.wrap_i64];omega
   cases hb:b i with
   | false =>
    rw [hb] at c1
    simp only [Bool.false_eq_true,if_false] at c1
    have HJ2:Hid (∃ pre:List (Pl 16 b),pre.map Subtype.val=(List.range (i+1)).filter b/\J pre wr):=by
     obtain⟨pre,hp,hJ⟩:=HJ.out
     refine⟨pre,?_,hJ⟩
     rw [range_filter_snoc,hb,hp]
     simp
    gi_wp2
    refine⟨fun f hf=>(by cases hf),?_⟩
    gi_wp2
    go_roundw
    case rel=>exact⟨i+1,by go_num,by omega,HJ2,HK⟩
    case measure=>simp;omega
   | true =>
    rw [hb] at c1
    simp only [if_true] at c1
    obtain⟨pre,hp,hJ⟩:=HJ.out
    have hpl:pre.length < 16:=by have:=congrArg List.length hp;rw [List.length_map] at this;have:=filter_le b i;omega
    obtain⟨fn,tmps,assign,body,hy,hR⟩:=hY pre ⟨i,hil,hb⟩ wr hJ hpl
    have HSN:Hid ((pre ++ [(⟨i,hil,hb⟩:Pl 16 b)]).map Subtype.val=(List.range (i+1)).filter b):=show _=_ by rw [range_filter_snoc,if_pos hb,List.map_append,hp];rfl
    clear hpl hJ hp
    gi_wp2
    refine hR.mono ?_
    rintro e W3 (⟨rfl,hJ3,hk3⟩ |⟨rfl,hJx3⟩)
    ·gi_wp2
     go_roundw
     case rel=>exact⟨i+1,by go_num,by omega,⟨_,HSN.out,hJ3⟩,HK.out.trans hk3⟩
     case measure=>simp;omega
    ·gi_wp2
     refine bodyPost_ret (results_none rfl _ _ _) rfl ?_
     exact⟨⟨_,rfl⟩,.inr ⟨_,HSN.out ▸ filter_prefix b (by omega),hJx3⟩⟩
theorem xall_any(p:Option Addr)(w:World) :
  Calls Tryz.prog 48 #[.pointer p] w fun e w'=>e=.returned (.func (.func 88) #[] #[.pointer (some ⟨w.heap.size,0,none⟩)])/\w'=w.alloc (.cells #[.pointer p] 166):=by
 go_enter Tryz.func48,Tryz.ntmps48
 go_wp2
 go_ret
 exact⟨by simp,rfl⟩
theorem xseq_stops(n:Nat)(hn:1<=n)(bx kp a:Nat)(f:Nat->Nat)(b:Nat->Bool)(w:World)(hbx:w.cell? ⟨bx,0,none⟩=some (.pointer (some ⟨kp,4,none⟩)))(hs:w.cell? ⟨kp,5,none⟩=some (.slice (some ⟨a,0,none⟩) 32 32))(hA:Arr w a 32 f b 77) :
  SeqStopsK Fence.wide n Tryz.prog 88 #[.pointer (some ⟨bx,0,none⟩)] (fun i:Pl 32 b=>#[Value.pointer (some ⟨f i.1,0,none⟩)]) (KA a) (fun ys=>ys.map Subtype.val=(List.range 32).filter b) (fun pre=>pre.map Subtype.val <+: (List.range 32).filter b) 32 w:=fun l J Jx W hW hJ _ hY h0=>by
 have hbx':=(hW.cell (p:=⟨bx,0,none⟩) (cell_lt hbx)).trans hbx
 have hs':=(hW.cell (p:=⟨kp,5,none⟩) (cell_lt hs)).trans hs
 have HA:Hid (Arr W a 32 f b 77):=hA.below hW
 have H0:Hid (J [] W):=h0
 clear hA hbx hs hW h0 hJ
 refine callsIn_of_wp Tryz.func88 rfl trivial ?_ rfl
 simp only [Tryz.ntmps88,List.size_toArray,List.length_cons,List.length_nil,Nat.reduceAdd,Nat.reduceSub,Array.replicate_succ,Array.replicate_zero,List.push_toArray,List.append_toArray,List.nil_append,List.cons_append]
 gi_wp2
 gi_loopw [10] (fun s wr=>∃ i:Nat,s=.int .i64 (i:Int)/\i<=32/\Hid (∃ pre:List (Pl 32 b),pre.map Subtype.val=(List.range i).filter b/\J pre wr)/\Hid (KA a W wr))
  (fun s wr=>match s with | .int _ i=>32 - i.toNat | _=>0)
 case atStart =>
  exact⟨0,rfl,by omega,⟨[],rfl,H0.out⟩,KA.refl _ _⟩
 case round =>
  obtain⟨i,rfl,hi,HJ,HK⟩:=hrel
  by_cases him:i=32
  ·have hlt:¬ ((i:Int) < 32):=by omega
   gi_wp2
   go_end0
   refine⟨⟨_,rfl⟩,.inl ?_⟩
   obtain⟨pre,hp,hJ⟩:=HJ.out
   rw [him] at hp
   exact⟨pre,hp,hJ⟩
  ·have hil:i < 32:=by omega
   have hlt:(i:Int) < 32:=by omega
   have c1:=(HA.out.ka HK.out).at hil
   have hwk:IntKind.i64.wrap ((i:Int)+1)=(i:Int)+1:=by rw [IntKind.wrap_i64];omega
   cases hb:b i with
   | false =>
    rw [hb] at c1
    simp only [Bool.false_eq_true,if_false] at c1
    have HJ2:Hid (∃ pre:List (Pl 32 b),pre.map Subtype.val=(List.range (i+1)).filter b/\J pre wr):=by
     obtain⟨pre,hp,hJ⟩:=HJ.out
     refine⟨pre,?_,hJ⟩
     rw [range_filter_snoc,hb,hp]
     simp
    gi_wp2
    refine⟨fun f hf=>(by cases hf),?_⟩
    gi_wp2
    go_roundw
    case rel=>exact⟨i+1,by go_num,by omega,HJ2,HK⟩
    case measure=>simp;omega
   | true =>
    rw [hb] at c1
    simp only [if_true] at c1
    obtain⟨pre,hp,hJ⟩:=HJ.out
    have hpl:pre.length < 32:=by have:=congrArg List.length hp;rw [List.length_map] at this;have:=filter_le b i;omega
    obtain⟨fn,tmps,assign,body,hy,hR⟩:=hY pre ⟨i,hil,hb⟩ wr hJ hpl
    have HSN:Hid ((pre ++ [(⟨i,hil,hb⟩:Pl 32 b)]).map Subtype.val=(List.range (i+1)).filter b):=show _=_ by rw [range_filter_snoc,if_pos hb,List.map_append,hp];rfl
    clear hpl hJ hp
    gi_wp2
    refine hR.mono ?_
    rintro e W3 (⟨rfl,hJ3,hk3⟩ |⟨rfl,hJx3⟩)
    ·gi_wp2
     go_roundw
     case rel=>exact⟨i+1,by go_num,by omega,⟨_,HSN.out,hJ3⟩,HK.out.trans hk3⟩
     case measure=>simp;omega
    ·gi_wp2
     refine bodyPost_ret (results_none rfl _ _ _) rfl ?_
     exact⟨⟨_,rfl⟩,.inr ⟨_,HSN.out ▸ filter_prefix b (by omega),hJx3⟩⟩
end Go.Proofs.YtbbdndfibjdcfaaGreat
namespace Go.Proofs.YtbbdndfibjdcfaaGreat
open Go Go.RowKit Go.Shelf
attribute [local go_sem] Oper.semAt_some
section
variable {o0:Nat->Nat} {w0 w w':World} {G:Geo} {k:Kn}
theorem field_owner(k a b c o:Int)(r os:Value)(w:World):(Instr.field 53 (.agg #[.int .u32 0,.int .u8 k,.int .u32 a,.int .u32 b,.int .u32 c,.int .u32 o,r,os,.int .i64 0,.slice none 0 0]) 3).run Tryz.prog w=.ok (.int .u32 o) w:=by kernel_rfl
def ownC(k:Kn)(z:Int):Int:=if Hd.placeE k.th z.toNat=0 then(Hd.placeP k.th z.toNat:Nat) else -1
structure Nm (k:Kn):Prop where
 th:∀ z:Nat,Hd.placeE k.th z=0->∃ t,k.ts (Hd.placeP k.th z)=some t
 oh:∀ z:Nat,Hd.placeE k.oh z=0->∃ x,k.os (Hd.placeP k.oh z)=some x
 own:∀ o x,k.os o=some x->0<=x.x.o/\x.x.o<=4294967295
 on:∀ i t,k.ts i=some t->0<=t.on->∃ x,k.os t.on.toNat=some x
 run:Rd.fsb k.rd=true->∃ i t,Rd.fsv k.rd=((i:Nat):Int)/\k.ts i=some t
theorem ownerOf_any(h:St o0 w0 G w k)(hn:Nm k){o:Nat}{x:Th}(hx:k.os o=some x):Calls Tryz.prog 137 #[.pointer (some ⟨G.kp,0,none⟩),.pointer (some ⟨G.xp o,0,none⟩)] w fun e w'=>e=.returned (.int .i64 (ownC k x.x.o))/\Below w.heap.size w w':=by
 obtain⟨z,hz⟩:=Int.eq_ofNat_of_zero_le (hn.own o x hx).1
 have hz2:z<=4294967295:=by have:=(hn.own o x hx).2;omega
 have e5:=h.e5 hx
 have HSee:Hid (∀ wx,St o0 w0 G wx k->Calls Tryz.prog 89 #[.pointer (some ⟨G.op o,0,none⟩)] wx (Ob.Seen2 x.x wx)):=fun wx hw=>k_see hw hx
 have HZ:Hid (x.x.o=(z:Nat)):=hz
 have hfit:Hd.placeE k.th z=0->Hd.placeP k.th z < 16:=fun e=>by
  obtain⟨t,ht⟩:=hn.th z e
  exact h.ti ht
 have HF:Hid (∀ wx,St o0 w0 G wx k->Calls Tryz.prog 102 #[.pointer (some ⟨G.kp,2,none⟩),.int .u32 (z:Nat)] wx fun e w'=>e=.returned (.tuple #[if Hd.placeE k.th z=0 then tPt G k.ts (Hd.placeP k.th z) else .pointer none,.int .i64 (Hd.placeE k.th z)])/\St o0 w0 G w' k/\Below wx.heap.size wx w'):=fun wx hw=>tfind_any hw z hz2 hfit
 have HS:Hid (St o0 w0 G w k):=h
 have HX:Hid (k.os o=some x):=hx
 by_cases he:Hd.placeE k.th z=0
 ·obtain⟨t,ht⟩:=hn.th z he
  have HP:Hid (ownC k x.x.o=(Hd.placeP k.th z:Nat)):=show _=_ by unfold ownC;rw [hz];simp [he]
  have HT:Hid (k.ts (Hd.placeP k.th z)=some t):=ht
  rw [if_pos he,he] at HF
  have e1:tPt G k.ts (Hd.placeP k.th z)=.pointer (some ⟨G.tp (Hd.placeP k.th z),0,none⟩):=by unfold tPt;rw [ht];rfl
  rw [e1] at HF
  clear h hn hz hz2 hfit he ht e1 hx
  generalize Hd.placeP k.th z=n at *
  have hfo:=field_owner
  go_enter Tryz.func137,Tryz.ntmps137
  go_wp2
  go_region_held3 (fun w'=>w'.cell? ⟨G.xp o,5,none⟩=some (.pointer (some ⟨(G.op o),0,none⟩))) (go_keep) (first
   |(go_at_call 89;refine(HSee.out _ HS.out.drew).mono ?_;rintro e w1 ⟨s1,n1,c1,s2,n2,c2,rfl,_,_,hb1,_⟩;have B1:Hid (Below w.heap.size w w1):=(below_drewN w 1).trans hb1;have S1:Hid (St o0 w0 G w1 k):=HS.out.drew.below hb1;have y5:=S1.out.e5 HX.out;simp only [HZ.out,Ob.seec];clear hb1)
   |(go_at_call 102;refine(HF.out _ S1.out).mono ?_;rintro e w2 ⟨rfl,h2,hb2⟩;have B2:Hid (Below w.heap.size w w2):=B1.out.trans (hb2.mono B1.out.size);have y14:=h2.d14 HT.out;have y5:=h2.e5 HX.out;clear hb2 h2)
   | fail)
  go_wp2
  go_ret
  exact⟨(by rw [HP.out];rfl),B2.out⟩
 ·have HP:Hid (ownC k x.x.o=-1):=show _=_ by unfold ownC;rw [hz];simp [he]
  have he':(Hd.placeE k.th z == 0)=false:=by simpa using he
  rw [if_neg he] at HF
  clear h hn hz hz2 hfit hx
  generalize Hd.placeE k.th z=er at *
  have hfo:=field_owner
  go_enter Tryz.func137,Tryz.ntmps137
  go_wp2
  go_region_held3 (fun w'=>w'.cell? ⟨G.xp o,5,none⟩=some (.pointer (some ⟨(G.op o),0,none⟩))) (go_keep) (first
   |(go_at_call 89;refine(HSee.out _ HS.out.drew).mono ?_;rintro e w1 ⟨s1,n1,c1,s2,n2,c2,rfl,_,_,hb1,_⟩;have B1:Hid (Below w.heap.size w w1):=(below_drewN w 1).trans hb1;have S1:Hid (St o0 w0 G w1 k):=HS.out.drew.below hb1;have y5:=S1.out.e5 HX.out;simp only [HZ.out,Ob.seec];clear hb1)
   |(go_at_call 102;refine(HF.out _ S1.out).mono ?_;rintro e w2 ⟨rfl,h2,hb2⟩;have B2:Hid (Below w.heap.size w w2):=B1.out.trans (hb2.mono B1.out.size);have y5:=h2.e5 HX.out;clear hb2 h2)
   | fail)
  go_wp2
  go_ret
  exact⟨(by rw [HP.out];rfl),B2.out⟩
def awC(k:Kn)(i:Nat):Int:=match k.ts i with | some t=>if 0<=t.on then(match k.os t.on.toNat with | some x=>ownC k x.x.o | none=>-1) else -1 | none=>-1
def awL(k:Kn):List Int:=(List.range 16).map (awC k)
def upto(f:Nat->Int)(i:Nat):List Int:=(List.range 16).map fun j=>if j < i then f j else 0
theorem upto_0(f:Nat->Int):upto f 0=List.replicate 16 0:=by unfold upto;simp only [Nat.not_lt_zero,if_false];rfl
theorem upto_16(f:Nat->Int):upto f 16=(List.range 16).map f:=by
 unfold upto
 refine List.map_congr_left fun j hj=>?_
 rw [if_pos (by simpa using hj)]
theorem upto_set(f:Nat->Int){i:Nat}(hi:i < 16):(upto f i).set i (f i)=upto f (i+1):=by
 unfold upto
 apply List.ext_getElem?
 intro j
 by_cases e:j=i
 ·subst e
  rw [List.getElem?_set_self (by simpa using hi),List.getElem?_map,List.getElem?_range hi]
  simp
 ·rw [List.getElem?_set_ne (fun c=>e c.symm),List.getElem?_map,List.getElem?_map]
  rcases Nat.lt_or_ge j 16 with c | c
  ·rw [List.getElem?_range c]
   simp only [Option.map_some]
   congr 1
   by_cases d:j < i
   ·rw [if_pos d,if_pos (by omega)]
   ·rw [if_neg d,if_neg (by omega)]
  ·rw [List.getElem?_eq_none (by simpa using c)];rfl
theorem upto_len(f:Nat->Int)(i:Nat):(upto f i).length=16:=by simp [upto]
theorem awaited_any(h:St o0 w0 G w k)(hn:Nm k):Calls Tryz.prog 94 #[.pointer (some ⟨G.kp,0,none⟩)] w fun e w'=>∃ z,e=.returned (.slice (some ⟨z,0,none⟩) 16 16)/\w.heap.size<=z/\Row w' z (awL k)/\Below w.heap.size w w':=by
 have HS:Hid (St o0 w0 G w k):=h
 have HN:Hid (Nm k):=hn
 have c3:=h.c3
 have hmk:∀ w:World,(Instr.makeSlice 111 (.int .i64 16) (.int .i64 16)).run Tryz.prog w=.ok (.slice (some ⟨w.heap.size,0,none⟩) 16 16) (w.alloc (.cells (num (List.replicate 16 0)).toArray 3)):=fun w=>make_row w 16 16 (by omega) (by omega)
 have HB0:Hid (Below w.heap.size w (w.alloc (.cells (num (List.replicate 16 0)).toArray 3))):=alloc_below w _
 have HR0:Hid (Row (w.alloc (.cells (num (List.replicate 16 0)).toArray 3)) w.heap.size (upto (awC k) 0)):=by rw [upto_0];exact alloc_at w _
 generalize hv:(num (List.replicate 16 0)).toArray=v0 at *
 have hlt:=h.klt
 clear h hn hv
 go_enter Tryz.func94,Tryz.ntmps94
 go_wp2
 obtain⟨z,hz⟩:∃ z,w.heap.size=z:=⟨_,rfl⟩
 obtain⟨w1,hw1⟩:∃ w1,w.alloc (.cells v0 3)=w1:=⟨_,rfl⟩
 rw [hw1] at HB0 HR0
 simp only [hw1]
 rw [hz] at HB0 HR0
 simp only [hz]
 have HZ:Hid (w.heap.size=z):=hz
 clear hw1 hz hmk c3 hlt
 go_loopg [19] 16 (fun g s0 wx=>∃ i:Nat,i+g=16/\s0=.int .i64 i/\Hid (Row wx z (upto (awC k) i))/\Hid (Below z w wx))
 case atStart=>exact⟨0,by omega,rfl,HR0,HB0⟩
 case round =>
  obtain⟨i,hig,rfl,HR,HB⟩:=hrel
  have HSx:Hid (St o0 w0 G wr k):=HS.out.below (HZ.out ▸ HB.out)
  have hzl:=HR.out.lt
  cases gk with
  | zero =>
   obtain rfl:i=16:=by omega
   go_wp2
   go_ret
   exact⟨z,rfl,by rw [HZ.out];exact Nat.le_refl _,(by have:=HR.out;rw [upto_16] at this;exact this),HZ.out.symm ▸ HB.out⟩
  | succ g' =>
   have hil:i < 16:=by omega
   have hilt:(i:Int) < 16:=by omega
   have hwk:IntKind.i64.wrap ((i:Int)+1)=(i:Int)+1:=by rw [IntKind.wrap_i64];omega
   have ca:=HSx.out.tat hil
   have cz:=HR.out.free i
   have cc:=HR.out.cell i (by rw [upto_len];exact hil)
   have HR1:Hid (Row (wr.setCell ⟨z,i,none⟩ (.int .i64 (-1))) z ((upto (awC k) i).set i (-1))):=HR.out.set i (-1)
   have HB1:Hid (Below z w (wr.setCell ⟨z,i,none⟩ (.int .i64 (-1)))):=HB.out.trans ((Tm.Buts.cell wr z i _).below (by simp) (Nat.le_of_lt hzl))
   cases ht:k.ts i with
   | none =>
    have e:awC k i=-1:=by unfold awC;rw [ht]
    have e2:tPt G k.ts i=.pointer none:=by unfold tPt;rw [ht];rfl
    rw [e2] at ca
    rw [←e,upto_set _ hil,e] at HR1
    clear ht e e2
    generalize (upto (awC k) i).getD i 0=y0 at *
    go_wp2
    go_roundg g'
    case measure=>omega
    case rel=>exact⟨i+1,by omega,rfl,HR1,HB1⟩
   | some t =>
    have HT:Hid (k.ts i=some t):=ht
    have e2:tPt G k.ts i=.pointer (some ⟨G.tp i,0,none⟩):=by unfold tPt;rw [ht];rfl
    rw [e2] at ca
    have hne:G.tp i≠z:=by have:=at_lt (HS.out.t ht);have:=HZ.out;omega
    have c16:=HSx.out.d16 ht
    by_cases ho:0<=t.on
    ·obtain⟨x,hx⟩:=HN.out.on i t ht ho
     have e:awC k i=ownC k x.x.o:=by unfold awC;simp only [ht,if_pos ho,hx]
     rw [onP_yes ho] at c16
     have HS1:Hid (St o0 w0 G (wr.setCell ⟨z,i,none⟩ (.int .i64 (-1))) k):=HS.out.below (HZ.out ▸ HB1.out)
     have HO:Hid (Calls Tryz.prog 137 #[.pointer (some ⟨G.kp,0,none⟩),.pointer (some ⟨G.xp t.on.toNat,0,none⟩)] (wr.setCell ⟨z,i,none⟩ (.int .i64 (-1))) fun e w'=>e=.returned (.int .i64 (ownC k x.x.o))/\Below (wr.setCell ⟨z,i,none⟩ (.int .i64 (-1))).heap.size (wr.setCell ⟨z,i,none⟩ (.int .i64 (-1))) w'):=ownerOf_any HS1.out HN.out hx
     have HE:Hid (awC k i=ownC k x.x.o):=e
     clear ht e e2 ho hx
     generalize (upto (awC k) i).getD i 0=y0 at *
     generalize t.on.toNat=o at *
     generalize ownC k x.x.o=q at *
     go_wp2_with (first
      |(go_at_call 137;refine HO.out.mono ?_;rintro e w3 ⟨rfl,hb3⟩;have HR3:Hid (Row w3 z ((upto (awC k) i).set i (-1))):=(hb3.block z HR1.out.lt).trans HR1.out;have HB3:Hid (Below z w w3):=HB1.out.trans (hb3.mono (Nat.le_of_lt HR1.out.lt));have dz:=HR3.out.free i;have dc:=HR3.out.cell i (by rw [List.length_set,upto_len];exact hil);clear hb3))
     go_roundg g'
     case measure=>omega
     case rel =>
      refine⟨i+1,by omega,rfl,?_,?_⟩
      ·have:=HR3.out.set i q
       rw [List.set_set,←HE.out,upto_set _ hil] at this
       rw [HE.out] at this
       exact this
      ·exact HB3.out.trans ((Tm.Buts.cell w3 z i _).below (by simp) (Nat.le_of_lt HR3.out.lt))
    ·have e:awC k i=-1:=by unfold awC;simp only [ht,if_neg ho]
     rw [onP_no ho] at c16
     rw [←e,upto_set _ hil,e] at HR1
     clear ht e e2 ho
     generalize (upto (awC k) i).getD i 0=y0 at *
     go_wp2
     go_roundg g'
     case measure=>omega
     case rel=>exact⟨i+1,by omega,rfl,HR1,HB1⟩
def bsC(k:Kn)(i:Nat):Int:=match k.ts i with | some t=>if t.st=3 then 0 else t.base | none=>0
def among(f:Nat->Int)(l:List Nat):List Int:=(List.range 16).map fun j=>if j∈l then f j else 0
theorem among_nil(f:Nat->Int):among f []=List.replicate 16 0:=by unfold among;simp only [List.not_mem_nil,if_false];rfl
theorem among_len(f:Nat->Int)(l:List Nat):(among f l).length=16:=by simp [among]
theorem among_set(f:Nat->Int)(l:List Nat){i:Nat}(hi:i < 16):(among f l).set i (f i)=among f (l ++ [i]):=by
 unfold among
 apply List.ext_getElem?
 intro j
 by_cases e:j=i
 ·subst e
  rw [List.getElem?_set_self (by simpa using hi),List.getElem?_map,List.getElem?_range hi]
  simp
 ·rw [List.getElem?_set_ne (fun c=>e c.symm),List.getElem?_map,List.getElem?_map]
  rcases Nat.lt_or_ge j 16 with c | c
  ·rw [List.getElem?_range c]
   simp [e]
  ·rw [List.getElem?_eq_none (by simpa using c)];rfl
theorem among_zero(f:Nat->Int)(l:List Nat){i:Nat}(hf:f i=0):among f (l ++ [i])=among f l:=by
 unfold among
 refine List.map_congr_left fun j hj=>?_
 by_cases e:j=i
 ·subst e;simp [hf]
 ·simp [e]
theorem bs_all(k:Kn):among (bsC k) ((List.range 16).filter fun i=>(k.ts i).isSome)=bases k:=by
 unfold among bases
 refine List.map_congr_left fun j hj=>?_
 have h16:j < 16:=by simpa using hj
 unfold bsC
 cases ht:k.ts j with
 | none=>simp [ht]
 | some t=>simp [ht,h16]
theorem St.arrT(h:St o0 w0 G w k):Arr w G.ta 16 G.tp (fun i=>(k.ts i).isSome) 109:=⟨_,h.ta,fun i hi=>taC_at G _ hi⟩
theorem St.arrO(h:St o0 w0 G w k):Arr w G.oa 32 G.xp (fun o=>(k.os o).isSome && G.sh o) 77:=⟨_,h.oa,fun i hi=>oaC_at G _ hi⟩
theorem bases_any(h:St o0 w0 G w k)(hn:Nm k):Calls Tryz.prog 93 #[.pointer (some ⟨G.kp,0,none⟩)] w fun e w'=>∃ z,e=.returned (.slice (some ⟨z,0,none⟩) 16 16)/\w.heap.size<=z/\Row w' z (bases k)/\Below w.heap.size w w':=by
 have HS:Hid (St o0 w0 G w k):=h
 have c3:=h.c3
 have hlt:=h.klt
 have hmk:∀ w:World,(Instr.makeSlice 111 (.int .i64 16) (.int .i64 16)).run Tryz.prog w=.ok (.slice (some ⟨w.heap.size,0,none⟩) 16 16) (w.alloc (.cells (num (List.replicate 16 0)).toArray 3)):=fun w=>make_row w 16 16 (by omega) (by omega)
 have hmx:Tryz.prog.follows .mixedOrders=true:=by kernel_rfl
 generalize hv:(num (List.replicate 16 0)).toArray=v0 at *
 refine(callsIn_wide (n:=3)).1 ?_
 refine callsIn_of_wp_marks Tryz.func93 rfl trivial ?_ rfl
 simp only [Tryz.ntmps93,List.size_toArray,List.length_cons,List.length_nil,Nat.reduceAdd,Nat.reduceSub,Array.replicate_succ,Array.replicate_zero,List.push_toArray,List.append_toArray,List.nil_append,List.cons_append]
 gi_wp2_with (refine⟨trivial,?_⟩;gi_at_call 42;refine(callsIn_wide.2 (tall_any _ _)).mono ?_;rintro e w' ⟨rfl,rfl⟩)
 obtain⟨z,hz⟩:∃ z,w.heap.size=z:=⟨_,rfl⟩
 obtain⟨W0,hW0⟩:∃ W0,((w.alloc (.cells v0 3)).alloc (.cells #[.slice (some ⟨w.heap.size,0,none⟩) 16 16] 111)).alloc (.cells #[.pointer (some ⟨G.kp,2,none⟩)] 162)=W0:=⟨_,rfl⟩
 have hB0:Below w.heap.size w W0:=by rw [←hW0];exact(((Below.refl _ w).alloc (Nat.le_refl _) _).alloc (by simp) _).alloc (by simp;omega) _
 have hS0:W0.heap.size=w.heap.size+1+1+1:=by rw [←hW0];simp
 have hR0:Row W0 w.heap.size (among (bsC k) []):=by
  rw [among_nil]
  unfold Row
  rw [←hW0,hv]
  have h1:=alloc_at w (.cells v0 3)
  have h2:=(alloc_below (w.alloc (.cells v0 3)) (.cells #[.slice (some ⟨w.heap.size,0,none⟩) 16 16] 111)).block w.heap.size (by rw [alloc_size];omega)
  have h3:=(alloc_below ((w.alloc (.cells v0 3)).alloc (.cells #[.slice (some ⟨w.heap.size,0,none⟩) 16 16] 111)) (.cells #[.pointer (some ⟨G.kp,2,none⟩)] 162)).block w.heap.size (by rw [alloc_size,alloc_size];omega)
  exact(h3.trans h2).trans h1
 have hC1:W0.heap[w.heap.size+1]?=some (.cells #[.slice (some ⟨w.heap.size,0,none⟩) 16 16] 111 (0,0)):=by
  rw [←hW0]
  have h1:=alloc_at (w.alloc (.cells v0 3)) (.cells #[.slice (some ⟨w.heap.size,0,none⟩) 16 16] 111)
  have h3:=(alloc_below ((w.alloc (.cells v0 3)).alloc (.cells #[.slice (some ⟨w.heap.size,0,none⟩) 16 16] 111)) (.cells #[.pointer (some ⟨G.kp,2,none⟩)] 162)).block (w.heap.size+1) (by rw [alloc_size,alloc_size];omega)
  rw [alloc_size] at h1
  exact h3.trans h1
 have hC2:W0.cell? ⟨w.heap.size+1+1,0,none⟩=some (.pointer (some ⟨G.kp,2,none⟩)):=by
  rw [←hW0]
  have h1:=alloc_at ((w.alloc (.cells v0 3)).alloc (.cells #[.slice (some ⟨w.heap.size,0,none⟩) 16 16] 111)) (.cells #[.pointer (some ⟨G.kp,2,none⟩)] 162)
  rw [alloc_size,alloc_size] at h1
  rw [cell_of h1]
  rfl
 simp only [World.size_alloc,hW0]
 have h0:=h.below hB0
 have c30:=h0.c3
 have hA0:=h0.arrT
 clear hW0 hmk c3 hlt hv
 rw [hz] at hB0 hS0 hR0 hC1 hC2
 simp only [hz]
 have HZ:Hid (w.heap.size=z):=hz
 refine wpIn_rangeFunc_ownG rfl (by omega) (gf:=82) (lb:=#[.pointer (some ⟨z+1+1,0,none⟩)]) rfl trivial (enters_of Tryz.func82 (by kernel_rfl) rfl)
  (tseq_stops _ (by omega) (z+1+1) G.kp G.ta G.tp _ W0 hC2 c30 hA0) KA.trans ka_b (Below.refl _ _) (fun _=>rfl)
  (fun pre W=>W.heap[z+1]?=some (.cells #[.slice (some ⟨z,0,none⟩) 16 16] 111 (0,0))/\Row W z (among (bsC k) (pre.map Subtype.val))/\Below z w W)
  (fun _ _ _=>False)
  (ownFrom_of fun pre W W' ⟨i1,i2,i3⟩ hc hb=>⟨hc _ _ _ _ i1,hc _ _ _ _ i2,i3.trans (hb z (by omega) (Nat.le_of_lt i2.lt))⟩)
  (fun _ _ _ _ _ hs _ _=>hs)
  ⟨hC1,hR0,hB0⟩
  (fun x=>{ tmps:=List.toArray ((.pointer (some ⟨G.kp,0,none⟩)) :: undef :: (.slice none 0 0) :: (.pointer (some ⟨z+1,0,none⟩)) :: (.pointer (some ⟨(G.tp x.1),0,none⟩)) :: (.pointer (some ⟨G.kp,0,none⟩)) :: (.pointer (some ⟨G.kp,0,none⟩)) :: (.pointer (some ⟨G.kp,2,none⟩)) :: (.pointer (some ⟨G.kp,3,none⟩)) :: (.slice (some ⟨G.ta,0,none⟩) 16 16) :: (.int .i64 16) :: (.slice (some ⟨z,0,none⟩) 16 16) :: (.pointer (some ⟨G.kp,0,none⟩)) :: (.pointer (some ⟨G.kp,0,none⟩)) :: (.pointer (some ⟨G.kp,2,none⟩)) :: (.func (.func 82) #[] #[.pointer (some ⟨z+1+1,0,none⟩)]) :: (.pointer (some ⟨(G.tp x.1),0,none⟩)) :: undef :: undef :: undef :: undef :: undef :: undef :: undef :: undef :: undef :: undef :: undef :: undef :: undef :: undef :: undef :: undef :: undef :: undef :: []),defers:=[] }) ?assign ?body ?done ?stop
 case assign =>
  intro l x W K hK
  gi_wp2
  exact hK
 case body =>
  rintro l pre x W ⟨i1,i2,i3⟩ hlt
  obtain⟨t,ht⟩:=Option.isSome_iff_exists.1 x.2.2
  have hx:=x.2.1
  have hxI:((x.1:Nat):Int) < 16:=by omega
  have HSx:Hid (St o0 w0 G W k):=HS.out.below (HZ.out ▸ i3)
  have d1:=HSx.out.d1 ht
  have c1:W.cell? ⟨z+1,0,none⟩=some (.slice (some ⟨z,0,none⟩) 16 16):=by rw [cell_of i1];rfl
  by_cases h3:t.st=3
  ·have e:bsC k x.1=0:=by unfold bsC;simp only [ht,h3];rfl
   rw [h3] at d1
   have HI:Hid (W.heap[z+1]?=some (.cells #[.slice (some ⟨z,0,none⟩) 16 16] 111 (0,0))/\Row W z (among (bsC k) ((pre ++ [x]).map Subtype.val))/\Below z w W):=by
    refine⟨i1,?_,i3⟩
    rw [List.map_append,List.map_cons,List.map_nil,among_zero _ _ e]
    exact i2
   clear ht e i1 i2 i3
   gi_wp2
   exact⟨KeepsFrom.refl _ _,KA.refl _ _,HI.out⟩
  ·have e:bsC k x.1=t.base:=by unfold bsC;simp only [ht,if_neg h3]
   have h3':(t.st == 3)=false:=by simpa using h3
   have d3:=HSx.out.d3 ht
   have d14:=HSx.out.d14 ht
   have f0:=i2.free x.1
   have fz:=i2.cell x.1 (by rw [among_len];exact hx)
   have hne:z+1≠z:=by omega
   have hr2:=i2.set x.1 t.base
   rw [←e,among_set _ _ hx] at hr2
   have HI:Hid ((W.setCell ⟨z,x.1,none⟩ (.int .i64 t.base)).drew.heap[z+1]?=some (.cells #[.slice (some ⟨z,0,none⟩) 16 16] 111 (0,0))/\Row (W.setCell ⟨z,x.1,none⟩ (.int .i64 t.base)).drew z (among (bsC k) ((pre ++ [x]).map Subtype.val))/\Below z w (W.setCell ⟨z,x.1,none⟩ (.int .i64 t.base)).drew):=by
    have hzb:z<=(W.setCell ⟨z,x.1,none⟩ (.int .i64 t.base)).heap.size:=by simp [World.setCell];exact Nat.le_of_lt i2.lt
    refine⟨?_,?_,(i3.trans ((Tm.Buts.cell W z x.1 _).below (by simp) (Nat.le_of_lt i2.lt))).trans ((below_drewN _ 1).mono hzb)⟩
    ·show(W.setCell ⟨z,x.1,none⟩ (.int .i64 t.base)).heap[z+1]?=_
     rw [Below.heap_setCell _ _ _ _ hne];exact i1
    ·rw [List.map_append,List.map_cons,List.map_nil,←e];exact hr2
   have HK:Hid (KA G.ta W (W.setCell ⟨z,x.1,none⟩ (.int .i64 t.base)).drew):=by
    have hl:=at_lt (HS.out.ta)
    have hzz:=HZ.out
    exact⟨(by show W.heap.size<=(W.setCell ⟨z,x.1,none⟩ (.int .i64 t.base)).heap.size;simp [World.setCell]),fun cs ty f hc=>by show(W.setCell ⟨z,x.1,none⟩ (.int .i64 t.base)).heap[G.ta]?=_;rw [Below.heap_setCell _ _ _ _ (show G.ta≠z by omega)];exact hc⟩
   have HF:Hid (KeepsFrom W0.heap.size W (W.setCell ⟨z,x.1,none⟩ (.int .i64 t.base)).drew):=((KeepsOthers.setCell W _ _).trans (KeepsOthers.drew _)).from _
   clear ht e i1 i2 i3 hr2
   generalize (among (bsC k) (pre.map Subtype.val)).getD x.1 0=y0 at *
   gi_wp2
   refine Tm.region_round (by intro i o ho c;rcases i with _ | _ | _ | _ | _ | _ | _ | _ | _ | _ | _ | _ | i <;> (try (cases ho;exact(fun h=>by cases h)));simp at ho) hmx ?_
   refine wpAnyIn_take (i:=1) (v:=?vb1) rfl rfl (by kernel_rfl) (by kernel_rfl) (by kernel_rfl) (fun _ _ _ h=>h) ⟨Or.inl ⟨by rfl,?hyb1⟩,fun _=>rfl⟩ ?restb1
   case hyb1=>(intro w;go_simp;try with_reducible rfl)
   refine wpAnyIn_take (i:=2) (v:=?vb2) rfl rfl (by kernel_rfl) (by kernel_rfl) (by kernel_rfl) (fun _ _ _ h=>h) ⟨Or.inl ⟨by rfl,?hyb2⟩,fun _=>rfl⟩ ?restb2
   case hyb2=>(intro w;go_simp;try with_reducible rfl)
   refine wpAnyIn_take (i:=3) (v:=?vb3) rfl rfl (by kernel_rfl) (by kernel_rfl) (by kernel_rfl) (fun _ _ _ h=>h) ⟨Or.inl ⟨by rfl,?hyb3⟩,fun _=>rfl⟩ ?restb3
   case hyb3=>(intro w;go_simp;try with_reducible rfl)
   refine wpAnyIn_take (i:=5) (v:=?vb4) rfl rfl (by kernel_rfl) (by kernel_rfl) (by kernel_rfl) (fun _ _ _ h=>h) ⟨Or.inl ⟨by rfl,?hyb4⟩,fun _=>rfl⟩ ?restb4
   case hyb4=>(intro w;go_simp;try with_reducible rfl)
   refine wpAnyIn_take (i:=6) (v:=?vb5) rfl rfl (by kernel_rfl) (by kernel_rfl) (by kernel_rfl) (fun _ _ _ h=>h) ⟨Or.inl ⟨by rfl,?hyb5⟩,fun _=>rfl⟩ ?restb5
   case hyb5=>(intro w;go_simp;try with_reducible rfl)
   refine wpAnyIn_take (i:=7) (v:=?vb6) rfl rfl (by kernel_rfl) (by kernel_rfl) (by kernel_rfl) (fun _ _ _ h=>h) ⟨Or.inl ⟨by rfl,?hyb6⟩,fun _=>rfl⟩ ?restb6
   case hyb6=>(intro w;go_simp;try with_reducible rfl)
   refine wpAnyIn_take (i:=8) (v:=?vb7) rfl rfl (by kernel_rfl) (by kernel_rfl) (by kernel_rfl) (fun _ _ _ h=>h) ⟨Or.inl ⟨by rfl,?hyb7⟩,fun _=>rfl⟩ ?restb7
   case hyb7=>(intro w;go_simp;try with_reducible rfl)
   refine wpAnyIn_ready (rs:=[0,4,9]) (by kernel_rfl) (by simp) ?_
   refine AllReadyIn.cons rfl (fun K hK=>?_) ?_
   ·go_simp
    refine hK _ _ ?_
    clear hK K
    refine wpAnyIn_ready (rs:=[4,9]) (by kernel_rfl) (by simp) ?_
    refine AllReadyIn.cons rfl (fun K hK=>?_) ?_
    ·go_simp
     refine hK _ _ ?_
     clear hK K
     refine wpAnyIn_ready (rs:=[9]) (by kernel_rfl) (by simp) ?_
     refine AllReadyIn.cons rfl (fun K hK=>?_) AllReadyIn.nil
     go_simp
     refine hK _ _ ?_
     clear hK K
     refine wpAnyIn_take (i:=10) (v:=?vb8) rfl rfl (by kernel_rfl) (by kernel_rfl) (by kernel_rfl) (fun _ _ _ h=>h) ⟨Or.inl ⟨by rfl,?hyb8⟩,fun _=>rfl⟩ ?restb8
     case hyb8=>(intro w;go_simp;try with_reducible rfl)
     refine wpAnyIn_ready (rs:=[11]) (by kernel_rfl) (by simp) ?_
     refine AllReadyIn.cons rfl (fun K hK=>?_) AllReadyIn.nil
     go_simp
     refine hK _ _ ?_
     clear hK K
     refine wpAnyIn_done (by kernel_rfl) ?_ _
     exact⟨HF.out,HK.out,HI.out⟩
    refine AllReadyIn.cons rfl (fun K hK=>?_) AllReadyIn.nil
    go_simp
    refine hK _ _ ?_
    clear hK K
    refine wpAnyIn_ready (rs:=[4]) (by kernel_rfl) (by simp) ?_
    refine AllReadyIn.cons rfl (fun K hK=>?_) AllReadyIn.nil
    go_simp
    refine hK _ _ ?_
    clear hK K
    refine wpAnyIn_take (i:=10) (v:=?vb9) rfl rfl (by kernel_rfl) (by kernel_rfl) (by kernel_rfl) (fun _ _ _ h=>h) ⟨Or.inl ⟨by rfl,?hyb9⟩,fun _=>rfl⟩ ?restb9
    case hyb9=>(intro w;go_simp;try with_reducible rfl)
    refine wpAnyIn_ready (rs:=[11]) (by kernel_rfl) (by simp) ?_
    refine AllReadyIn.cons rfl (fun K hK=>?_) AllReadyIn.nil
    go_simp
    refine hK _ _ ?_
    clear hK K
    refine wpAnyIn_done (by kernel_rfl) ?_ _
    exact⟨HF.out,HK.out,HI.out⟩
   refine AllReadyIn.cons rfl (fun K hK=>?_) ?_
   ·go_simp
    refine hK _ _ ?_
    clear hK K
    refine wpAnyIn_ready (rs:=[0,9]) (by kernel_rfl) (by simp) ?_
    refine AllReadyIn.cons rfl (fun K hK=>?_) ?_
    ·go_simp
     refine hK _ _ ?_
     clear hK K
     refine wpAnyIn_ready (rs:=[9]) (by kernel_rfl) (by simp) ?_
     refine AllReadyIn.cons rfl (fun K hK=>?_) AllReadyIn.nil
     go_simp
     refine hK _ _ ?_
     clear hK K
     refine wpAnyIn_take (i:=10) (v:=?vb10) rfl rfl (by kernel_rfl) (by kernel_rfl) (by kernel_rfl) (fun _ _ _ h=>h) ⟨Or.inl ⟨by rfl,?hyb10⟩,fun _=>rfl⟩ ?restb10
     case hyb10=>(intro w;go_simp;try with_reducible rfl)
     refine wpAnyIn_ready (rs:=[11]) (by kernel_rfl) (by simp) ?_
     refine AllReadyIn.cons rfl (fun K hK=>?_) AllReadyIn.nil
     go_simp
     refine hK _ _ ?_
     clear hK K
     refine wpAnyIn_done (by kernel_rfl) ?_ _
     exact⟨HF.out,HK.out,HI.out⟩
    refine AllReadyIn.cons rfl (fun K hK=>?_) AllReadyIn.nil
    go_simp
    refine hK _ _ ?_
    clear hK K
    refine wpAnyIn_ready (rs:=[0]) (by kernel_rfl) (by simp) ?_
    refine AllReadyIn.cons rfl (fun K hK=>?_) AllReadyIn.nil
    go_simp
    refine hK _ _ ?_
    clear hK K
    refine wpAnyIn_take (i:=10) (v:=?vb11) rfl rfl (by kernel_rfl) (by kernel_rfl) (by kernel_rfl) (fun _ _ _ h=>h) ⟨Or.inl ⟨by rfl,?hyb11⟩,fun _=>rfl⟩ ?restb11
    case hyb11=>(intro w;go_simp;try with_reducible rfl)
    refine wpAnyIn_ready (rs:=[11]) (by kernel_rfl) (by simp) ?_
    refine AllReadyIn.cons rfl (fun K hK=>?_) AllReadyIn.nil
    go_simp
    refine hK _ _ ?_
    clear hK K
    refine wpAnyIn_done (by kernel_rfl) ?_ _
    exact⟨HF.out,HK.out,HI.out⟩
   refine AllReadyIn.cons rfl (fun K hK=>?_) AllReadyIn.nil
   go_simp
   refine hK _ _ ?_
   clear hK K
   refine wpAnyIn_ready (rs:=[0,4]) (by kernel_rfl) (by simp) ?_
   refine AllReadyIn.cons rfl (fun K hK=>?_) ?_
   ·go_simp
    refine hK _ _ ?_
    clear hK K
    refine wpAnyIn_ready (rs:=[4]) (by kernel_rfl) (by simp) ?_
    refine AllReadyIn.cons rfl (fun K hK=>?_) AllReadyIn.nil
    go_simp
    refine hK _ _ ?_
    clear hK K
    refine wpAnyIn_take (i:=10) (v:=?vb12) rfl rfl (by kernel_rfl) (by kernel_rfl) (by kernel_rfl) (fun _ _ _ h=>h) ⟨Or.inl ⟨by rfl,?hyb12⟩,fun _=>rfl⟩ ?restb12
    case hyb12=>(intro w;go_simp;try with_reducible rfl)
    refine wpAnyIn_ready (rs:=[11]) (by kernel_rfl) (by simp) ?_
    refine AllReadyIn.cons rfl (fun K hK=>?_) AllReadyIn.nil
    go_simp
    refine hK _ _ ?_
    clear hK K
    refine wpAnyIn_done (by kernel_rfl) ?_ _
    exact⟨HF.out,HK.out,HI.out⟩
   refine AllReadyIn.cons rfl (fun K hK=>?_) AllReadyIn.nil
   go_simp
   refine hK _ _ ?_
   clear hK K
   refine wpAnyIn_ready (rs:=[0]) (by kernel_rfl) (by simp) ?_
   refine AllReadyIn.cons rfl (fun K hK=>?_) AllReadyIn.nil
   go_simp
   refine hK _ _ ?_
   clear hK K
   refine wpAnyIn_take (i:=10) (v:=?vb13) rfl rfl (by kernel_rfl) (by kernel_rfl) (by kernel_rfl) (fun _ _ _ h=>h) ⟨Or.inl ⟨by rfl,?hyb13⟩,fun _=>rfl⟩ ?restb13
   case hyb13=>(intro w;go_simp;try with_reducible rfl)
   refine wpAnyIn_ready (rs:=[11]) (by kernel_rfl) (by simp) ?_
   refine AllReadyIn.cons rfl (fun K hK=>?_) AllReadyIn.nil
   go_simp
   refine hK _ _ ?_
   clear hK K
   refine wpAnyIn_done (by kernel_rfl) ?_ _
   exact⟨HF.out,HK.out,HI.out⟩
 case done =>
  rintro D ys W hD hys ⟨i1,i2,i3⟩ hK
  have c1:W.cell? ⟨z+1,0,none⟩=some (.slice (some ⟨z,0,none⟩) 16 16):=by rw [cell_of i1];rfl
  gi_wp2
  refine⟨by simp,.inl ⟨_,_,rfl,run_takeDeferred hK,?_⟩⟩
  have hg:=grownBy_putObj' W D (.deferred none)
  rw [hys,bs_all] at i2
  have hzl:=i2.lt
  have hDz:z<=D:=by omega
  have hnD:∀ (b:Nat) cs ty f,W.heap[b]?=some (.cells cs ty f)->b≠D:=fun b cs ty f hb e=>by subst e;rw [hK] at hb;cases hb
  refine⟨_,results_tmp rfl _ _ _,z,rfl,Nat.le_refl _,?_,?_⟩
  ·unfold Row at i2 ⊢
   rw [hg.block z hzl (fun e=>hnD z _ _ _ i2 (by simpa using e))]
   exact i2
  ·exact i3.trans ⟨hg.os,hg.tape,hg.output,hg.size,fun b hb=>hg.block b (by omega) (fun e=>by have:b=D:=(by simpa using e);omega)⟩
 case stop =>
  rintro D c pre W _ _ h _
  exact h.elim
end
end Go.Proofs.YtbbdndfibjdcfaaGreat
namespace Go.Proofs.YtbbdndfibjdcfaaGreat
open Go Go.RowKit
section
variable {o0:Nat->Nat} {w0 w w':World} {G:Geo} {k:Kn}
def turnC(k:Kn)(i:Nat)(r:Int):Kn :=
 match k.ts i with
 | some t =>
  let k1:=joinC (k.setT i { t with rank:=r }) i
  if 0<=t.on then(match k1.os t.on.toNat with | some x=>k1.setO t.on.toNat { x with q:=Wt.chL x.q (i:Int) r } | none=>k1) else k1
 | none=>k
theorem joinC_at(k:Kn){i:Nat}{t:Ta}(ht:k.ts i=some t):∃ u,(joinC k i).ts i=some u/\u.on=t.on/\u.st=t.st:=by
 unfold joinC
 simp only [ht]
 split
 ·unfold join
  simp only [ht]
  exact⟨_,set1_at _ _ _,rfl,rfl⟩
 ·exact⟨t,ht,rfl,rfl⟩
theorem joinC_os(k:Kn)(i:Nat):(joinC k i).os=k.os:=by
 unfold joinC join
 cases k.ts i with
 | none=>rfl
 | some t=>simp only;split <;> rfl
theorem turnRank_any(h:St o0 w0 G w k){i:Nat}{t:Ta}(ht:k.ts i=some t)(hon:0<=t.on->∃ x,k.os t.on.toNat=some x)(r:Int):Calls Tryz.prog 95 #[.pointer (some ⟨G.kp,0,none⟩),.pointer (some ⟨G.tp i,0,none⟩),.int .i64 r] w fun e w'=>e=.returned (.tuple #[])/\St o0 w0 G w' (turnC k i r):=by
 have z4:=h.d4 ht
 have f4:=h.tfree ht 4
 have HL:Hid (St o0 w0 G (w.setCell ⟨G.tp i,4,none⟩ (.int .i64 r)) (k.setT i { t with rank:=r })):=h.setT ht 4 _ _ rfl rfl rfl
 obtain⟨u,hu,hun,hus⟩:=joinC_at (k.setT i { t with rank:=r }) (setT_at k i { t with rank:=r })
 have HU:Hid ((joinC (k.setT i { t with rank:=r }) i).ts i=some u):=hu
 have HA:Hid (turnC k i r=if 0<=t.on then(match (joinC (k.setT i { t with rank:=r }) i).os t.on.toNat with | some x=>(joinC (k.setT i { t with rank:=r }) i).setO t.on.toNat { x with q:=Wt.chL x.q (i:Int) r } | none=>joinC (k.setT i { t with rank:=r }) i) else joinC (k.setT i { t with rank:=r }) i):=show _=_ by unfold turnC;simp only [ht]
 have HJ:Hid (∀ wx,St o0 w0 G wx (k.setT i { t with rank:=r })->Calls Tryz.prog 68 #[.pointer (some ⟨G.kp,0,none⟩),.pointer (some ⟨G.tp i,0,none⟩)] wx fun e w'=>e=.returned (.tuple #[])/\St o0 w0 G w' (joinC (k.setT i { t with rank:=r }) i)):=fun wx hx=>join_any hx (setT_at _ _ _)
 by_cases ho:0<=t.on
 ·obtain⟨x,hx⟩:=hon ho
  have HX:Hid ((joinC (k.setT i { t with rank:=r }) i).os t.on.toNat=some x):=by show _=_;rw [joinC_os];exact hx
  have HO:Hid (onP G u.on=.pointer (some ⟨G.xp t.on.toNat,0,none⟩)):=by show _=_;rw [hun];exact onP_yes ho
  rw [if_pos ho] at HA
  have HA2:Hid (turnC k i r=(joinC (k.setT i { t with rank:=r }) i).setO t.on.toNat { x with q:=Wt.chL x.q (i:Int) r }):=by show _=_;rw [HA.out,HX.out]
  clear h ht hon hu hun hus hx ho HA
  generalize joinC (k.setT i { t with rank:=r }) i=k1 at *
  generalize t.on.toNat=o at *
  go_enter Tryz.func95,Tryz.ntmps95
  go_wp2_with (first
   |(go_at_call 68;refine(HJ.out _ HL.out).mono ?_;rintro e w2 ⟨rfl,h2⟩;have S2:Hid (St o0 w0 G w2 k1):=h2;have y14:=h2.d14 HU.out;have y16:w2.cell? ⟨G.tp i,16,none⟩=some (.pointer (some ⟨G.xp o,0,none⟩)):=(h2.d16 HU.out).trans (congrArg some HO.out);have y6:=h2.e6 HX.out;clear h2))
  go_region_held3 (fun w'=>w'.cell? ⟨G.tp i,14,none⟩=some (.int .i64 (i:Nat))/\w'.cell? ⟨G.xp o,6,none⟩=some (.pointer (some ⟨(G.qp o),0,none⟩))/\w'.cell? ⟨G.tp i,16,none⟩=some (.pointer (some ⟨G.xp o,0,none⟩))) (go_keep) (first
   |(go_at_call 138;refine(k_wchange S2.out.drew HX.out _ _).mono ?_;rintro e w3 ⟨⟨y,rfl⟩,h3⟩;have S3:Hid (St o0 w0 G w3 (k1.setO o { x with q:=Wt.chL x.q (i:Int) r })):=h3;have v14:=h3.d14 HU.out;have v16:w3.cell? ⟨G.tp i,16,none⟩=some (.pointer (some ⟨G.xp o,0,none⟩)):=(h3.d16 HU.out).trans (congrArg some HO.out);have v6:=h3.e6 (setO_at k1 o _);clear h3)
   | fail)
  go_wp2
  go_end0
  refine⟨rfl,?_⟩
  rw [HA2.out]
  exact S3.out
 ·have HO:Hid (onP G u.on=.pointer none):=by show _=_;rw [hun];exact onP_no ho
  rw [if_neg ho] at HA
  clear h ht hon hu hun hus ho
  generalize joinC (k.setT i { t with rank:=r }) i=k1 at *
  go_enter Tryz.func95,Tryz.ntmps95
  go_wp2_with (first
   |(go_at_call 68;refine(HJ.out _ HL.out).mono ?_;rintro e w2 ⟨rfl,h2⟩;have S2:Hid (St o0 w0 G w2 k1):=h2;have y16:w2.cell? ⟨G.tp i,16,none⟩=some (.pointer none):=(h2.d16 HU.out).trans (congrArg some HO.out);clear h2))
  go_end0
  refine⟨rfl,?_⟩
  rw [HA.out]
  exact S2.out
def turnS(l:List Int)(k:Kn)(i:Nat):Kn:=match k.ts i with | some t=>if t.st=3∨t.rank=l.getD i 0 then k else turnC k i (l.getD i 0) | none=>k
def tellC(l:List Int)(k:Kn):Kn:=(List.range 16).foldl (turnS l) k
def On(k:Kn):Prop:=∀ i t,k.ts i=some t->0<=t.on->∃ x,k.os t.on.toNat=some x
theorem joinC_on{k:Kn}(h:On k)(i:Nat):On (joinC k i):=fun j u hu h0=>by
 rw [joinC_os]
 unfold joinC at hu
 cases ht:k.ts i with
 | none=>simp only [ht] at hu;exact h j u hu h0
 | some t =>
  simp only [ht] at hu
  split at hu
  ·unfold join at hu
   simp only [ht] at hu
   by_cases e:j=i
   ·subst e
    rw [set1_at] at hu
    obtain rfl:=Option.some.inj hu
    exact h j t ht h0
   ·rw [set1_ne _ _ e] at hu;exact h j u hu h0
  ·exact h j u hu h0
theorem turnC_on{k:Kn}(h:On k)(i:Nat)(r:Int):On (turnC k i r):=by
 unfold turnC
 cases ht:k.ts i with
 | none=>exact h
 | some t =>
  simp only
  have h1:On (k.setT i { t with rank:=r }):=fun j u hu h0=>by
   by_cases e:j=i
   ·subst e
    rw [setT_at] at hu
    obtain rfl:=Option.some.inj hu
    exact h j t ht h0
   ·exact h j u (by simpa [Kn.setT,set1_ne _ _ e] using hu) h0
  have h2:=joinC_on h1 i
  generalize joinC (k.setT i { t with rank:=r }) i=k1 at *
  split
  ·cases hx:k1.os t.on.toNat with
   | none=>exact h2
   | some x =>
    intro j u hu h0
    obtain⟨y,hy⟩:=h2 j u hu h0
    by_cases e:u.on.toNat=t.on.toNat
    ·exact⟨{ x with q:=Wt.chL x.q (i:Int) r },by show set1 _ _ _ _=_;rw [e,set1_at]⟩
    ·exact⟨y,by show set1 _ _ _ _=_;rw [set1_ne _ _ e];exact hy⟩
  ·exact h2
theorem turnS_on{k:Kn}(h:On k)(l:List Int)(i:Nat):On (turnS l k i):=by
 unfold turnS
 cases k.ts i with
 | none=>exact h
 | some t=>simp only;split;exact h;exact turnC_on h i _
theorem fold_snoc(l:List Int)(k:Kn)(i:Nat):(List.range (i+1)).foldl (turnS l) k=turnS l ((List.range i).foldl (turnS l) k) i:=by
 rw [List.range_succ,List.foldl_append];rfl
theorem fold_on{k:Kn}(h:On k)(l:List Int):∀ i,On ((List.range i).foldl (turnS l) k)
 | 0=>h
 | i+1=>by rw [fold_snoc];exact turnS_on (fold_on h l i) l i
theorem awL_len(k:Kn):(awL k).length=16:=by simp [awL]
theorem row_src{w:World}{z:Nat}{zs:List Int}(h:Row w z zs):Hr.Src w (some ⟨z,0,none⟩) zs:=fun _=>⟨z,0,rfl,fun i hi=>by rw [Nat.zero_add];exact h.cell i hi⟩
theorem k_ranks{z1 z2:Nat}(r1:Row w z1 (bases k))(r2:Row w z2 (awL k))(hv:Hr.Val (bases k) (awL k)):Calls Tryz.prog 92 #[.slice (some ⟨z1,0,none⟩) 16 16,.slice (some ⟨z2,0,none⟩) 16 16] w fun e w'=>∃ g cap l,e=.returned (.tuple #[.slice (some ⟨g,0,none⟩) 16 cap,.int .i64 0])/\Hr.Lst (bases k) (awL k) l/\w.heap.size<=g/\(∀ j,j < 16->w'.cell? ⟨g,j,none⟩=some (.int .i64 (l.getD j 0)))/\Below w.heap.size w w':=by
 have:=Hr.ranks_yes (row_src r1) (row_src r2) hv 16 16
 rw [bases_len,awL_len] at this
 refine this.mono fun e w' ⟨v,l,he,hl,ho,hb⟩=>?_
 have hll:l.length=16:=by rw [hl.mid.len,bases_len]
 obtain⟨g,cap,rfl,_,_⟩:=owns_spot ho (by omega)
 refine⟨g,cap,l,he,hl,(World.ownsRow.lt ho g rfl).1,fun j hj=>?_,hb⟩
 have:=ho.cellAt j (by omega)
 rw [this]
 simp [hll,hj]
theorem tellRanks_any(h:St o0 w0 G w k)(hn:Nm k)(hv:Hr.Val (bases k) (awL k))(u:FrameMode):CallsD Tryz.prog 52 #[.pointer (some ⟨G.kp,0,none⟩)] u w fun e u' w'=>u'=u/\(e=.returned (.tuple #[])/\∃ l,Hr.Lst (bases k) (awL k) l/\St o0 w0 G w' (tellC l k)):=by
 have HS:Hid (St o0 w0 G w k):=h
 have HN:Hid (Nm k):=hn
 have HV:Hid (Hr.Val (bases k) (awL k)):=hv
 have HB:=bases_any h hn
 clear h hn hv
 go_enter_d Tryz.func52,Tryz.ntmps52
 go_wp2_with (first
  |(go_at_call 93;refine HB.mono ?_;rintro e w1 ⟨z1,rfl,hz1,r1,b1⟩;have R1:Hid (Row w1 z1 (bases k)):=r1;have B1:Hid (Below w.heap.size w w1):=b1;have S1:Hid (St o0 w0 G w1 k):=HS.out.below b1;clear hz1 r1 b1)
  |(go_at_call 94;refine(awaited_any S1.out HN.out).mono ?_;rintro e w2 ⟨z2,rfl,hz2,r2,b2⟩;have R2:Hid (Row w2 z2 (awL k)):=r2;have R3:Hid (Row w2 z1 (bases k)):=R1.out.below b2;have B2:Hid (Below w.heap.size w w2):=B1.out.trans (b2.mono B1.out.size);clear hz2 r2 b2)
  |(go_at_call 92;refine(k_ranks R3.out R2.out HV.out).mono ?_;rintro e w3 ⟨g,cap,l,rfl,hl,hg,hc,b3⟩;have HL:Hid (Hr.Lst (bases k) (awL k) l):=hl;have HC:Hid (∀ j,j < 16->w3.cell? ⟨g,j,none⟩=some (.int .i64 (l.getD j 0))):=hc;have B3:Hid (Below w.heap.size w w3):=B2.out.trans (b3.mono B2.out.size);have HG:Hid (w.heap.size<=g):=Nat.le_trans B2.out.size hg;clear hl hg hc b3))
 obtain⟨own,hA,hX,hF⟩:=HS.out.fresh B3.out
 have HX:Hid (Ext o0 own w0 w3):=hX
 have h0g:own g=0:=hF g HG.out
 have HON:Hid (On k):=HN.out.on
 have HA:Hid (St own w3 G w3 k):=hA
 have HT0:Hid (∀ wx kx,St own w3 G wx kx->∀ j,j < 16->wx.cell? ⟨g,j,none⟩=some (.int .i64 (l.getD j 0))):=fun wx kx hs j hj=>hs.cell h0g (HC.out j hj)
 clear hA hX hF h0g R1 R2 R3 S1 B1 B2 B3 HB HC HG
 go_loopg [17] 16 (fun n s0 wx=>∃ i:Nat,i+n=16/\s0=.int .i64 i/\Hid (St own w3 G wx ((List.range i).foldl (turnS l) k)))
 case atStart=>exact⟨0,by omega,rfl,HA⟩
 case round =>
  obtain⟨i,hig,rfl,HR⟩:=hrel
  cases gk with
  | zero =>
   obtain rfl:i=16:=by omega
   go_wp2
   go_end0
   exact⟨rfl,l,HL.out,HR.out.from HX.out⟩
  | succ g' =>
   have hil:i < 16:=by omega
   have hilt:(i:Int) < 16:=by omega
   have hwk:IntKind.i64.wrap ((i:Int)+1)=(i:Int)+1:=by rw [IntKind.wrap_i64];omega
   have cg:=HT0.out wr _ HR.out i hil
   have c3:=HR.out.c3
   have ca:=HR.out.tat hil
   have hon:=fold_on HON.out l i
   have hsn:=fold_snoc l k i
   generalize (List.range i).foldl (turnS l) k=kx at *
   have HSN:Hid ((List.range (i+1)).foldl (turnS l) k=turnS l kx i):=hsn
   clear hsn
   cases ht:kx.ts i with
   | none =>
    have e2:tPt G kx.ts i=.pointer none:=by unfold tPt;rw [ht];rfl
    have e3:turnS l kx i=kx:=by unfold turnS;rw [ht]
    rw [e2] at ca
    rw [e3] at HSN
    clear ht e2 e3 hon
    generalize l.getD i 0=r at *
    go_wp2
    go_roundg g'
    case measure=>omega
    case rel=>exact⟨i+1,by omega,rfl,(by rw [HSN.out];exact HR.out)⟩
   | some t =>
    have HT:Hid (kx.ts i=some t):=ht
    have e2:tPt G kx.ts i=.pointer (some ⟨G.tp i,0,none⟩):=by unfold tPt;rw [ht];rfl
    rw [e2] at ca
    have d1:=HR.out.d1 ht
    have d4:=HR.out.d4 ht
    have HTR:Hid (Calls Tryz.prog 95 #[.pointer (some ⟨G.kp,0,none⟩),.pointer (some ⟨G.tp i,0,none⟩),.int .i64 (l.getD i 0)] wr fun e w'=>e=.returned (.tuple #[])/\St own w3 G w' (turnC kx i (l.getD i 0))):=turnRank_any HR.out ht (hon i t ht) _
    have e3:turnS l kx i=if t.st=3∨t.rank=l.getD i 0 then kx else turnC kx i (l.getD i 0):=by unfold turnS;rw [ht]
    clear ht e2 hon
    generalize l.getD i 0=r at *
    by_cases h3:t.st=3
    ·rw [if_pos (Or.inl h3)] at e3
     rw [h3] at d1
     rw [e3] at HSN
     clear e3
     go_wp2
     go_roundg g'
     case measure=>omega
     case rel=>exact⟨i+1,by omega,rfl,(by rw [HSN.out];exact HR.out)⟩
    ·have h3':(t.st == 3)=false:=by simpa using h3
     have h3b:(t.st != 3)=true:=by simpa using h3
     by_cases hr:t.rank=r
     ·rw [if_pos (Or.inr hr)] at e3
      rw [hr] at d4
      rw [e3] at HSN
      clear e3
      go_wp2
      go_roundg g'
      case measure=>omega
      case rel=>exact⟨i+1,by omega,rfl,(by rw [HSN.out];exact HR.out)⟩
     ·have hr':(t.rank == r)=false:=by simpa using hr
      have hrb:(t.rank != r)=true:=by simpa using hr
      rw [if_neg (by omega)] at e3
      rw [e3] at HSN
      clear e3
      go_wp2_with (first
       |(go_at_call 95;refine HTR.out.mono ?_;rintro e w4 ⟨rfl,h4⟩;have H4:Hid (St own w3 G w4 (turnC kx i r)):=h4;clear h4))
      go_roundg g'
      case measure=>omega
      case rel=>exact⟨i+1,by omega,rfl,(by rw [HSN.out];exact H4.out)⟩
end
def SameW(k:Kn)(j:Nat)(u:Ta):Prop:=∃ t,k.ts j=some t/\t.st=2/\u.h=t.h/\u.wh=t.wh/\u.av=t.av/\u.am=t.am/\u.on=t.on
structure MonoT (k k':Kn):Prop where
 w:∀ j u,k'.ts j=some u->u.st=2->SameW k j u
 f:∀ j u,k'.ts j=some u->u.st=3->∃ t,k.ts j=some t/\t.st=3/\u.base=t.base/\u.rank=t.rank
structure Mono (k k':Kn):Prop extends MonoT k k' where
 x:∀ o y,k'.os o=some y->∃ x,k.os o=some x/\y.x=x.x
def Srv(k:Kn)(o:Nat):Prop:=∀ x,k.os o=some x->∀ j t,k.ts j=some t->t.st=2->t.on=(o:Int)->(Ob.tA x.x t.h t.wh t.av t.am).2.1≠0
def SrvA(k:Kn):Prop:=∀ o,Srv k o
def SelfK(k:Kn):Prop:=∀ (o:Nat) (x:Th),k.os o=some x->∀ j t,k.ts j=some t->t.st=2->t.on=(o:Int)->t.wh=5->x.x.o≠(t.h:Int)
def FB(k:Kn):Prop:=∀ i t,k.ts i=some t->t.st=3->t.base<=t.rank
theorem MonoT.refl(k:Kn):MonoT k k:=⟨fun j u h hs=>⟨u,h,hs,rfl,rfl,rfl,rfl,rfl⟩,fun j u h hs=>⟨u,h,hs,rfl,rfl⟩⟩
theorem MonoT.trans{a b c:Kn}(h:MonoT a b)(k:MonoT b c):MonoT a c:=by
 refine⟨fun j u hu hs=>?_,fun j u hu hs=>?_⟩
 ·obtain⟨t,h1,h2,h3,h4,h5,h6,h7⟩:=k.w j u hu hs
  obtain⟨t',g1,g2,g3,g4,g5,g6,g7⟩:=h.w j t h1 h2
  exact⟨t',g1,g2,h3.trans g3,h4.trans g4,h5.trans g5,h6.trans g6,h7.trans g7⟩
 ·obtain⟨t,h1,h2,h3,h4⟩:=k.f j u hu hs
  obtain⟨t',g1,g2,g3,g4⟩:=h.f j t h1 h2
  exact⟨t',g1,g2,h3.trans g3,h4.trans g4⟩
theorem Mono.refl(k:Kn):Mono k k:=⟨MonoT.refl k,fun o y h=>⟨y,h,rfl⟩⟩
theorem Mono.trans{a b c:Kn}(h:Mono a b)(k:Mono b c):Mono a c:=by
 refine⟨h.toMonoT.trans k.toMonoT,fun o y hy=>?_⟩
 obtain⟨x,h1,h2⟩:=k.x o y hy
 obtain⟨x',g1,g2⟩:=h.x o x h1
 exact⟨x',g1,h2.trans g2⟩
theorem Srv.monoW{k k':Kn}{o:Nat}(h:Srv k o)(m:∀ j u,k'.ts j=some u->u.st=2->SameW k j u)(hx:∀ y,k'.os o=some y->∃ x,k.os o=some x/\y.x=x.x):Srv k' o:=fun y hy j u hu hs hon=>by
 obtain⟨x,x1,x2⟩:=hx y hy
 obtain⟨t,g1,g2,g3,g4,g5,g6,g7⟩:=m j u hu hs
 have:=h x x1 j t g1 g2 (by rw [←g7];exact hon)
 rw [x2,g3,g4,g5,g6]
 exact this
theorem Srv.mono{k k':Kn}{o:Nat}(h:Srv k o)(m:MonoT k k')(hx:∀ y,k'.os o=some y->∃ x,k.os o=some x/\y.x=x.x):Srv k' o:=h.monoW m.w hx
theorem SrvA.mono{k k':Kn}(h:SrvA k)(m:Mono k k'):SrvA k':=fun o=>(h o).mono m.toMonoT (m.x o)
theorem SelfK.monoW{k k':Kn}(h:SelfK k)(m:∀ j u,k'.ts j=some u->u.st=2->SameW k j u)(mx:∀ o y,k'.os o=some y->∃ x,k.os o=some x/\(y.x.o=x.x.o∨y.x.o=0))(hp:∀ j u,k'.ts j=some u->u.h≠0):SelfK k':=fun o y hy j u hu hs hon hw=>by
 obtain⟨x,x1,x2⟩:=mx o y hy
 obtain⟨t,g1,g2,g3,g4,g5,g6,g7⟩:=m j u hu hs
 have:=h o x x1 j t g1 g2 (by rw [←g7];exact hon) (by rw [←g4];exact hw)
 have h0:=hp j u hu
 rcases x2 with x2 | x2
 ·rw [x2,g3];exact this
 ·rw [x2];omega
theorem SelfK.mono{k k':Kn}(h:SelfK k)(m:Mono k k'):SelfK k':=fun o y hy j u hu hs hon hw=>by
 obtain⟨x,x1,x2⟩:=m.x o y hy
 obtain⟨t,g1,g2,g3,g4,g5,g6,g7⟩:=m.w j u hu hs
 have:=h o x x1 j t g1 g2 (by rw [←g7];exact hon) (by rw [←g4];exact hw)
 rw [x2,g3]
 exact this
theorem FB.mono{k k':Kn}(h:FB k)(m:MonoT k k'):FB k':=fun i u hu hs=>by
 obtain⟨t,g1,g2,g3,g4⟩:=m.f i u hu hs
 rw [g3,g4]
 exact h i t g1 g2
theorem mono_answer(k:Kn)(i:Nat)(e v:Int):Mono k (answer k i e v):=by
 refine⟨⟨fun j u hu hs=>?_,fun j u hu hs=>?_⟩,fun o y hy=>?_⟩
 ·obtain⟨t,a,b,c⟩:=answer_t e v hu
  obtain⟨c1,c2,c3,c4,c5⟩:=c hs
  exact⟨t,a,c1,b,c2,c3,c4,c5⟩
 ·cases ht:k.ts i with
  | none =>
   have:answer k i e v=k:=by unfold answer;rw [ht]
   rw [this] at hu
   exact⟨u,hu,hs,rfl,rfl⟩
  | some t =>
   rw [answer_ts ht] at hu
   by_cases c:j=i
   ·subst c
    rw [set1_at] at hu
    obtain rfl:t.done e v=u:=by simpa using hu
    obtain⟨k1,k2,_,_,_,_,k7⟩:=done_keep t e v
    refine⟨t,ht,?_,k1,k2⟩
    rw [k7] at hs
    split at hs
    ·cases hs
    ·exact hs
   ·rw [set1_ne _ _ c] at hu
    exact⟨u,hu,hs,rfl,rfl⟩
 ·obtain⟨x,a,b,_⟩:=answer_x e v hy
  exact⟨x,a,b⟩
theorem mono_anew(k:Kn):Mono k (anew k):=by
 refine⟨⟨fun j u hu hs=>?_,fun j u hu hs=>?_⟩,fun o y hy=>?_⟩
 ·obtain⟨t,a,b⟩:=anew_t hu
  refine⟨t,a,?_,?_,?_,?_,?_,?_⟩
  ·rw [b] at hs;exact hs
  all_goals rw [b]
 ·obtain⟨t,a,b⟩:=anew_t hu
  obtain⟨w,c1,_,c3,_⟩:=anew_back a
  rw [hu] at c1
  obtain rfl:u=w:=by simpa using c1
  have hs':t.st=3:=by rw [b] at hs;exact hs
  have e:=c3 hs'
  subst e
  exact⟨u,a,hs',rfl,rfl⟩
 ·have:=anew_x k o
  rw [hy] at this
  cases hx:k.os o with
  | none=>rw [hx] at this;cases this
  | some x =>
   rw [hx] at this
   exact⟨x,rfl,by simpa using congrArg (fun z=>z.map Prod.snd) this⟩
theorem mono_one{k k':Kn}{i:Nat}{t t':Ta}(ht:k.ts i=some t)(e:k'.ts=set1 k.ts i (some t'))(eo:k'.os=k.os)(hw:t'.st=2->t.st=2/\t'.h=t.h/\t'.wh=t.wh/\t'.av=t.av/\t'.am=t.am/\t'.on=t.on)(hf:t'.st=3->t.st=3/\t'.base=t.base/\t'.rank=t.rank):Mono k k':=by
 have hts:∀ j u,k'.ts j=some u->(j=i/\u=t')∨(j≠i/\k.ts j=some u):=fun j u hu=>by
  rw [e] at hu
  by_cases c:j=i
  ·subst c;rw [set1_at] at hu;exact Or.inl ⟨rfl,by simpa using hu.symm⟩
  ·rw [set1_ne _ _ c] at hu;exact Or.inr ⟨c,hu⟩
 refine⟨⟨fun j u hu hs=>?_,fun j u hu hs=>?_⟩,fun o y hy=>⟨y,by rw [←eo];exact hy,rfl⟩⟩
 ·rcases hts j u hu with⟨rfl,rfl⟩ |⟨_,hu⟩
  ·obtain⟨a,b⟩:=hw hs
   exact⟨t,ht,a,b⟩
  ·exact⟨u,hu,hs,rfl,rfl,rfl,rfl,rfl⟩
 ·rcases hts j u hu with⟨rfl,rfl⟩ |⟨_,hu⟩
  ·obtain⟨a,b⟩:=hf hs
   exact⟨t,ht,a,b⟩
  ·exact⟨u,hu,hs,rfl,rfl⟩
theorem mono_join(k:Kn)(i:Nat):Mono k (join k i):=by
 cases ht:k.ts i with
 | none =>
  have:join k i=k:=by unfold join;rw [ht]
  rw [this];exact Mono.refl k
 | some t =>
  have:join k i={ k with rd:=Rd.putX (Rd.rmX k.rd (i:Int)) (i:Int) t.rank,ts:=set1 k.ts i (some { t with ran:=0 }) }:=by unfold join;rw [ht]
  rw [this]
  exact mono_one (t':={ t with ran:=0 }) ht rfl rfl (fun h=>⟨h,rfl,rfl,rfl,rfl,rfl⟩) (fun h=>⟨h,rfl,rfl⟩)
theorem mono_slice1(k:Kn):Mono k (slice1 k):=by
 unfold slice1
 split
 ·dsimp only
  cases ht:k.ts (Rd.fsv k.rd).toNat with
  | none=>exact Mono.refl k
  | some t =>
   simp only
   have h1:Mono k (k.setT (Rd.fsv k.rd).toNat { t with ran:=t.ran+1 }):=mono_one (t':={ t with ran:=t.ran+1 }) ht rfl rfl (fun h=>⟨h,rfl,rfl,rfl,rfl,rfl⟩) (fun h=>⟨h,rfl,rfl⟩)
   split
   ·exact h1.trans (mono_join _ _)
   ·exact h1
 ·exact Mono.refl k
theorem mono_downs(k:Kn):Mono k (downs k):=by
 refine⟨⟨fun j u hu hs=>?_,fun j u hu hs=>?_⟩,fun o y hy=>⟨y,hy,rfl⟩⟩
 ·obtain⟨t,ht,rfl⟩:=downs_t hu
  refine⟨t,ht,?_⟩
  split at hs <;> (rename_i c;first | rw [if_pos c] | rw [if_neg c]) <;> exact⟨hs,rfl,rfl,rfl,rfl,rfl⟩
 ·obtain⟨t,ht,rfl⟩:=downs_t hu
  refine⟨t,ht,?_⟩
  split at hs <;> (rename_i c;first | rw [if_pos c] | rw [if_neg c]) <;> exact⟨hs,rfl,rfl⟩
theorem mono_over1(k:Kn)(i:Nat):Mono k (over1 k i):=by
 unfold over1
 refine Mono.trans ?_ (mono_anew _)
 cases ht:k.ts i with
 | none=>exact Mono.refl k
 | some t=>exact mono_answer k i _ _
theorem mono_overs:∀ (l:List Nat) (k:Kn),Mono k (l.foldl over1 k)
 | [],k=>Mono.refl k
 | i :: r,k=>(mono_over1 k i).trans (mono_overs r _)
structure Sv (k k':Kn) (o:Nat):Prop extends MonoT k k' where
 x:∀ p y,p≠o->k'.os p=some y->∃ x,k.os p=some x/\y.x=x.x
 self:SelfK k->SelfK k'
theorem Sv.refl(k:Kn)(o:Nat):Sv k k o:=⟨MonoT.refl k,fun p y _ h=>⟨y,h,rfl⟩,id⟩
theorem Sv.trans{a b c:Kn}{o:Nat}(h:Sv a b o)(k:Sv b c o):Sv a c o:=by
 refine⟨h.toMonoT.trans k.toMonoT,fun p y hp hy=>?_,fun hs=>k.self (h.self hs)⟩
 obtain⟨x,h1,h2⟩:=k.x p y hp hy
 obtain⟨x',g1,g2⟩:=h.x p x hp h1
 exact⟨x',g1,h2.trans g2⟩
theorem serve1_sv{k:Kn}{g:Int}{D:Nat->Prop}(h:Core k g D){o:Nat}{x:Th}(hx:k.os o=some x){i:Int}(hi:i∈Wt.keys x.q):Sv k (answer (k.setO o { x with x:=(tries k x i).2.2 }) i.toNat 0 (tries k x i).1) o:=by
 obtain⟨t,h1,_,h3,h4,h5⟩:=serve_one h hx hi
 have hm:=mono_answer (k.setO o { x with x:=(tries k x i).2.2 }) i.toNat 0 (tries k x i).1
 have ht0:(k.setO o { x with x:=(tries k x i).2.2 }).ts=k.ts:=rfl
 refine⟨⟨fun j u hu hs=>hm.w j u hu hs,fun j u hu hs=>hm.f j u hu hs⟩,fun p y hp hy=>?_,fun hself p y hy j u hu hs hon hw=>?_⟩
 ·obtain⟨x',a,b⟩:=hm.x p y hy
  have a':set1 k.os o (some { x with x:=(tries k x i).2.2 }) p=some x':=a
  rw [set1_ne _ _ hp] at a'
  exact⟨x',a',b⟩
 ·obtain⟨x',a,b⟩:=hm.x p y hy
  obtain⟨t',g1,g2,g3,g4,g5,g6,g7⟩:=hm.w j u hu hs
  have g1':k.ts j=some t':=g1
  have a':set1 k.os o (some { x with x:=(tries k x i).2.2 }) p=some x':=a
  rw [b,g3]
  by_cases c:p=o
  ·subst c
   rw [set1_at] at a'
   obtain rfl:({ x with x:=(tries k x i).2.2 }:Th)=x':=by simpa using a'
   rw [h5]
   rcases try_own x.x t.h t.wh t.av t.am with e | e | e
   ·simp only;rw [e]
    exact hself p x hx j t' g1' g2 (by rw [←g7];exact hon) (by rw [←g4];exact hw)
   ·simp only;rw [e.2]
    intro ec
    have:i.toNat=j:=h.apart h1 g1' (by omega)
    subst this
    exact answer_st _ _ u hu hs
   ·simp only;rw [e]
    have:=h.hpos g1'
    omega
  ·rw [set1_ne _ _ c] at a'
   exact hself p x' a' j t' g1' g2 (by rw [←g7];exact hon) (by rw [←g4];exact hw)
theorem serveN_sv{g:Int}{D:Nat->Prop}(o:Nat):∀ (n:Nat) (k:Kn),Core k g D->Sv k (serveN n k o) o/\((∀ x,k.os o=some x->x.q.length<=n)->Srv (serveN n k o) o)
 | 0,k,h=>⟨Sv.refl k o,fun hl x hx j t ht hs hon=>by
   have h1:=hl x hx
   have h2:=(h.qT o x hx ((j:Int),t.rank)).2 ⟨j,t,rfl,ht,hs,hon,rfl⟩
   have e0:x.q=[]:=List.eq_nil_of_length_eq_zero (by omega)
   rw [e0] at h2
   simp at h2⟩
 | n+1,k,h=>by
  unfold serveN
  cases hx:k.os o with
  | none=>exact⟨Sv.refl k o,fun _ x e=>(by rw [hx] at e;cases e)⟩
  | some x =>
   simp only
   cases hf:(Wt.keys x.q).find? (okB k x) with
   | none =>
    refine⟨Sv.refl k o,fun _ y hy j t ht hs hon he=>?_⟩
    rw [hx] at hy
    obtain rfl:x=y:=by simpa using hy
    have hk:(j:Int)∈Wt.keys x.q:=q_keys.2 ⟨t.rank,(h.qT o x hx _).2 ⟨j,t,rfl,ht,hs,hon,rfl⟩⟩
    have:=List.find?_eq_none.1 hf _ hk
    unfold okB tries at this
    simp only [Int.toNat_natCast,ht] at this
    exact this (by simpa using he)
   | some i =>
    simp only
    have hi:=List.mem_of_find?_eq_some hf
    obtain⟨r1,r2⟩:=serveN_sv o n (answer (k.setO o { x with x:=(tries k x i).2.2 }) i.toNat 0 (tries k x i).1) (h.serve1 hx hi)
    refine⟨(serve1_sv h hx hi).trans r1,fun hl=>r2 fun y hy=>?_⟩
    obtain⟨t,h1,h2,h3,h4,_⟩:=serve_one h hx hi
    have hos:(answer (k.setO o { x with x:=(tries k x i).2.2 }) i.toNat 0 (tries k x i).1).os=unq (k.setO o { x with x:=(tries k x i).2.2 }).os i.toNat t.on:=by
     rw [answer_os (t:=t) (by exact h1),if_pos h3]
    rw [hos,unq_eq] at hy
    obtain⟨x',a,b⟩:=rowsF_some (F:=fun o q=>if t.on=(o:Int) then Wt.gone q (i.toNat:Int) else q) hy
    have a':set1 k.os o (some { x with x:=(tries k x i).2.2 }) o=some x':=a
    rw [set1_at] at a'
    obtain rfl:({ x with x:=(tries k x i).2.2 }:Th)=x':=by simpa using a'
    subst b
    simp only
    rw [if_pos h4,←h2]
    obtain⟨r,hr⟩:=q_keys.1 hi
    have:=Wt.gone_len' (xs:=x.q) (who:=i) (Wt.has_yes.2 ⟨_,hr,rfl⟩)
    have:=hl x rfl
    omega
theorem serve_sv{k:Kn}{g:Int}{D:Nat->Prop}(h:Core k g D)(o:Nat):Sv k (serve k o) o/\Srv (serve k o) o:=by
 unfold serve
 cases hx:k.os o with
 | none=>exact⟨Sv.refl k o,fun x e=>(by rw [hx] at e;cases e)⟩
 | some x =>
  obtain⟨a,b⟩:=serveN_sv o x.q.length k h
  exact⟨a,b fun y hy=>by rw [hx] at hy;obtain rfl:x=y:=(by simpa using hy);exact Nat.le_refl _⟩
theorem serve_all{k:Kn}{g:Int}{D:Nat->Prop}(h:Core k g D){o:Nat}(hs:∀ p,p≠o->Srv k p)(hself:SelfK k)(hf:FB k):SrvA (serve k o)/\SelfK (serve k o)/\FB (serve k o):=by
 obtain⟨a,b⟩:=serve_sv h o
 refine⟨fun p=>?_,a.self hself,hf.mono a.toMonoT⟩
 by_cases c:p=o
 ·subst c;exact b
 ·exact(hs p c).mono a.toMonoT (fun y hy=>a.x p y c hy)
structure Fin (k:Kn):Prop where
 core:Core k 0 NoD
 ranked:Ranked k
 srv:SrvA k
 self:SelfK k
theorem Fin.fb{k:Kn}(h:Fin k):FB k:=fun i t ht _=>h.ranked.base i t ht
theorem Fin.of{k:Kn}(h:Core k 0 NoD)(hs:SrvA k)(he:SelfK k)(hf:FB k):Fin (anew k):=⟨h.anew,anew_ranked h hf,hs.mono (mono_anew k),he.mono (mono_anew k)⟩
theorem Fin.mono{k k':Kn}(h:Fin k)(hc:Core k' 0 NoD)(m:Mono k k'):Fin (anew k'):=Fin.of hc (h.srv.mono m) (h.self.mono m) (h.fb.mono m.toMonoT)
theorem Fin.new(sl now:Int):Fin (new0 sl now):=by
 refine⟨⟨Hd.Good.zero 16,Hd.Good.zero 32,fun i=>rfl,fun o=>rfl,fun i t h=>(by cases h),fun o x h=>(by cases h),Rd.Good.nil,fun z r hr=>⟨fun h=>(by cases h),fun⟨i,t,_,h,_⟩=>(by cases h)⟩,fun o x h=>(by cases h),fun o x h=>(by cases h),fun i t h=>(by cases h),fun o x h=>(by cases h)⟩,⟨fun i t h=>(by cases h),fun i t h=>(by cases h)⟩,fun o x h=>(by cases h),fun o x h=>(by cases h)⟩
theorem Fin.taskK{k:Kn}(h:Fin k)(r:Int):Fin (taskK k r).2.2:=by
 have hc:=h.core.taskK r
 unfold YtbbdndfibjdcfaaGreat.taskK at hc ⊢
 split
 ·exact h
 ·split
  ·exact h
  ·rename_i hr he
   obtain⟨a1,a2,a3,a4,a5⟩:=make_ok h.core.th (by simpa using he)
   have hn:k.ts (Hd.fr 16 k.th)=none:=by
    have:=h.core.thT (Hd.fr 16 k.th)
    rw [a2] at this
    simpa using this.symm
   have hK:Core (join { k with th:=Hd.makeS 16 k.th,ts:=set1 k.ts (Hd.fr 16 k.th) (some ⟨Hd.makeH 16 k.th,1,false,r,r,0,0,0,0,0,0,0,0,0,-1,0,0⟩) } (Hd.fr 16 k.th)) 0 NoD:=by
    unfold YtbbdndfibjdcfaaGreat.join
    simp only [set1_at,set1_set1]
    refine h.core.born a1 hn (y:=((k.th (Hd.fr 16 k.th)).1+1,true)) a3 rfl a5 rfl rfl rfl rfl a4 ⟨rfl,rfl⟩ ⟨Or.inl rfl,by simp only;omega,by simp only;omega,by simp,by simp,fun c=>(by cases c),fun c=>(by cases c),fun _=>⟨rfl,rfl,rfl,rfl,rfl,rfl,rfl⟩⟩
   refine h.mono hK (Mono.trans ?_ (mono_join _ _))
   have hts:∀ j u,set1 k.ts (Hd.fr 16 k.th) (some (⟨Hd.makeH 16 k.th,1,false,r,r,0,0,0,0,0,0,0,0,0,-1,0,0⟩:Ta)) j=some u->u.st=1∨k.ts j=some u:=fun j u hu=>by
    by_cases c:j=Hd.fr 16 k.th
    ·subst c
     rw [set1_at] at hu
     obtain rfl:_=u:=by simpa using hu
     exact Or.inl rfl
    ·rw [set1_ne _ _ c] at hu
     exact Or.inr hu
   refine⟨⟨fun j u hu hs=>?_,fun j u hu hs=>?_⟩,fun o y hy=>⟨y,hy,rfl⟩⟩
   ·rcases hts j u hu with c | c
    ·rw [c] at hs;cases hs
    ·exact⟨u,c,hs,rfl,rfl,rfl,rfl,rfl⟩
   ·rcases hts j u hu with c | c
    ·rw [c] at hs;cases hs
    ·exact⟨u,c,hs,rfl,rfl⟩
theorem ite_fin{c:Prop}{d:Decidable c}{a b:Nat×Int×Kn}(ha:Fin a.2.2)(hb:¬ c->Fin b.2.2):Fin (@ite _ c d a b).2.2:=by
 split
 ·exact ha
 ·exact hb (by assumption)
theorem Fin.thingK{k:Kn}(h:Fin k)(kd a b:Int):Fin (thingK k kd a b).2.2:=by
 unfold YtbbdndfibjdcfaaGreat.thingK
 refine ite_fin h fun _=>ite_fin h fun _=>ite_fin h fun _=>ite_fin h fun he=>?_
 obtain⟨a1,a2,a3,a4,a5⟩:=make_ok h.core.oh (by simpa using he)
 have hn:k.os (Hd.fr 32 k.oh)=none:=by
  have:=h.core.ohO (Hd.fr 32 k.oh)
  rw [a2] at this
  simpa using this.symm
 have hc:Core { k with oh:=Hd.makeS 32 k.oh,os:=set1 k.os (Hd.fr 32 k.oh) (some ⟨Hd.makeH 32 k.oh,Ob.newX kd a b,[]⟩) } 0 NoD:=h.core.thingBorn (k':={ k with oh:=Hd.makeS 32 k.oh,os:=set1 k.os (Hd.fr 32 k.oh) (some ⟨Hd.makeH 32 k.oh,Ob.newX kd a b,[]⟩) }) a1 hn (x:=⟨Hd.makeH 32 k.oh,Ob.newX kd a b,[]⟩) (y:=((k.oh (Hd.fr 32 k.oh)).1+1,true)) a3 rfl a5 rfl rfl rfl rfl a4 rfl (new_plain kd a b)
 have hno:∀ j t,k.ts j=some t->t.st=2->t.on≠((Hd.fr 32 k.oh:Nat):Int):=fun j t ht hs hon=>by
  have:=(hc.qT (Hd.fr 32 k.oh) ⟨Hd.makeH 32 k.oh,Ob.newX kd a b,[]⟩ (set1_at _ _ _) ((j:Int),t.rank)).2 ⟨j,t,rfl,ht,hs,hon,rfl⟩
  simp at this
 have hos:∀ p y,p≠Hd.fr 32 k.oh->set1 k.os (Hd.fr 32 k.oh) (some (⟨Hd.makeH 32 k.oh,Ob.newX kd a b,[]⟩:Th)) p=some y->k.os p=some y:=fun p y hp hy=>by rw [set1_ne _ _ hp] at hy;exact hy
 refine Fin.of hc (fun p y hy j t ht hs hon=>?_) (fun p y hy j t ht hs hon hw=>?_) h.fb
 ·by_cases c:p=Hd.fr 32 k.oh
  ·subst c;exact absurd hon (hno j t ht hs)
  ·exact h.srv p y (hos p y c hy) j t ht hs hon
 ·by_cases c:p=Hd.fr 32 k.oh
  ·subst c;exact absurd hon (hno j t ht hs)
  ·exact h.self p y (hos p y c hy) j t ht hs hon hw
structure Mid3 (k:Kn) (z:Int):Prop where
 core:Core k z NoD
 srv:SrvA k
 self:SelfK k
 fb:FB k
theorem Mid3.letGo{k:Kn}{z:Nat}(h:Mid3 k (z:Int))(hz:z≠0)(o:Nat):Mid3 (letGo z k o) (z:Int):=by
 have hc:=h.core.letGo hz o
 unfold YtbbdndfibjdcfaaGreat.letGo at hc ⊢
 cases hx:k.os o with
 | none=>exact h
 | some x =>
  rw [hx] at hc
  simp only at hc ⊢
  split
  ·rename_i hb
   rw [if_pos hb] at hc
   have hz':(z:Int)≠0:=by omega
   have hcs:Core (k.setO o { x with x:=Ob.lT x.x z }) (z:Int) NoD:=h.core.thing hx (leave_kind _ _).1 fun y hy h0=>by
    rcases hy with rfl | hy
    ·rcases(leave_own x.x z hz').2 with e | e
     ·exact h.core.own o x hx _ (Or.inl e) h0
     ·exact absurd e h0
    ·rcases(leave_zs x.x z hz' y hy).2 with e | e
     ·exact h.core.own o x hx _ (Or.inr e) h0
     ·exact absurd e h0
   have hos:∀ p y,(k.setO o { x with x:=Ob.lT x.x z }).os p=some y->(p=o/\y={ x with x:=Ob.lT x.x z })∨(p≠o/\k.os p=some y):=fun p y hy=>by
    have hy':set1 k.os o (some { x with x:=Ob.lT x.x z }) p=some y:=hy
    by_cases e:p=o
    ·subst e;rw [set1_at] at hy';exact Or.inl ⟨rfl,by simpa using hy'.symm⟩
    ·rw [set1_ne _ _ e] at hy';exact Or.inr ⟨e,hy'⟩
   obtain⟨a,b,c⟩:=serve_all hcs (o:=o) (fun p hp=>(h.srv p).monoW (fun j u hu hs=>⟨u,hu,hs,rfl,rfl,rfl,rfl,rfl⟩) fun y hy=>by
     rcases hos p y hy with⟨e,_⟩ |⟨_,e⟩
     ·exact absurd e hp
     ·exact⟨y,e,rfl⟩) (h.self.monoW (fun j u hu hs=>⟨u,hu,hs,rfl,rfl,rfl,rfl,rfl⟩) (fun p y hy=>by
     rcases hos p y hy with⟨rfl,rfl⟩ |⟨_,e⟩
     ·exact⟨x,hx,(leave_own x.x z hz').2⟩
     ·exact⟨y,e,Or.inl rfl⟩) (fun j u hu=>h.core.hpos hu)) h.fb
   exact⟨hc,a,b,c⟩
  ·exact h
theorem Mid3.lets{z:Nat}(hz:z≠0):∀ (l:List Nat) (k:Kn),Mid3 k (z:Int)->Mid3 (l.foldl (YtbbdndfibjdcfaaGreat.letGo z) k) (z:Int)
 | [],k,h=>h
 | o :: r,k,h=>Mid3.lets hz r _ (h.letGo hz o)
theorem Fin.endK{k:Kn}(h:Fin k)(z:Nat):Fin (endK k z).2:=by
 have hc:=h.core.endK z
 unfold YtbbdndfibjdcfaaGreat.endK at hc ⊢
 split
 ·exact h
 ·rename_i he
  have he':Hd.placeE k.th z=0:=by simpa using he
  obtain⟨t,ht,hz,h0⟩:=h.core.task_at he'
  obtain⟨b1,b2⟩:=drop_ok h.core.th he'
  have hl:leaves k (Hd.placeP k.th z)={ k with os:=unq k.os (Hd.placeP k.th z) t.on,ts:=set1 k.ts (Hd.placeP k.th z) (some t.idle) }:=by unfold leaves;rw [ht]
  simp only [hl,set1_set1]
  have hd:=h.core.dead (k':={ k with os:=unq k.os (Hd.placeP k.th z) t.on,ts:=set1 k.ts (Hd.placeP k.th z) none,rd:=Rd.rmX k.rd ((Hd.placeP k.th z:Nat):Int),th:=Hd.dropS k.th z }) ht (y:=((k.th (Hd.placeP k.th z)).1,false)) b1 rfl b2 rfl rfl rfl rfl
  rw [hz] at hd
  have hts:∀ j u,set1 k.ts (Hd.placeP k.th z) none j=some u->j≠Hd.placeP k.th z/\k.ts j=some u:=fun j u hu=>by
   by_cases c:j=Hd.placeP k.th z
   ·rw [c,set1_at] at hu;cases hu
   ·rw [set1_ne _ _ c] at hu;exact⟨c,hu⟩
  have hm:Mono k { k with os:=unq k.os (Hd.placeP k.th z) t.on,ts:=set1 k.ts (Hd.placeP k.th z) none,rd:=Rd.rmX k.rd ((Hd.placeP k.th z:Nat):Int),th:=Hd.dropS k.th z }:=by
   refine⟨⟨fun j u hu hs=>⟨u,(hts j u hu).2,hs,rfl,rfl,rfl,rfl,rfl⟩,fun j u hu hs=>⟨u,(hts j u hu).2,hs,rfl,rfl⟩⟩,fun o y hy=>?_⟩
   have hy':unq k.os (Hd.placeP k.th z) t.on o=some y:=hy
   rw [unq_eq] at hy'
   obtain⟨x,hx,rfl⟩:=rowsF_some (F:=fun o q=>if t.on=(o:Int) then Wt.gone q ((Hd.placeP k.th z:Nat):Int) else q) hy'
   exact⟨x,hx,rfl⟩
  have hM:=Mid3.lets h0 (List.range 32) _ ⟨hd,h.srv.mono hm,h.self.mono hm,h.fb.mono hm.toMonoT⟩
  exact Fin.of (hd.letsAll h0 fun j u hj hs e=>(hts j u hj).1 (h.core.apart (hts j u hj).2 ht (by rw [e,hz]))).1 hM.srv hM.self hM.fb
structure Pre (k:Kn):Prop where
 core:Core k 0 NoD
 srv:SrvA k
 self:SelfK k
 fb:FB k
theorem Fin.pre{k:Kn}(h:Fin k):Pre k:=⟨h.core,h.srv,h.self,h.fb⟩
theorem Pre.fin{k:Kn}(h:Pre k):Fin (anew k):=Fin.of h.core h.srv h.self h.fb
theorem Pre.mono{k k':Kn}(h:Pre k)(hc:Core k' 0 NoD)(m:Mono k k'):Pre k':=⟨hc,h.srv.mono m,h.self.mono m,h.fb.mono m.toMonoT⟩
theorem Pre.serve{k:Kn}(h:Pre k)(o:Nat):Pre (serve k o):=by
 obtain⟨a,b,c⟩:=serve_all h.core (o:=o) (fun p _=>h.srv p) h.self h.fb
 exact⟨h.core.serve o,a,b,c⟩
theorem touch_at{k:Kn}{o:Nat}{x:Th}{s:Ob.Sx}{p:Nat}{y:Th}(hy:(k.setO o { x with x:=s }).os p=some y):(p=o/\y={ x with x:=s })∨(p≠o/\k.os p=some y):=by
 have hy':set1 k.os o (some { x with x:=s }) p=some y:=hy
 by_cases e:p=o
 ·subst e;rw [set1_at] at hy';exact Or.inl ⟨rfl,by simpa using hy'.symm⟩
 ·rw [set1_ne _ _ e] at hy';exact Or.inr ⟨e,hy'⟩
structure But1 (k:Kn) (o:Nat):Prop where
 core:Core k 0 NoD
 srv:∀ p,p≠o->Srv k p
 self:SelfK k
 fb:FB k
theorem But1.serve{k:Kn}{o:Nat}(h:But1 k o):Pre (serve k o):=by
 obtain⟨a,b,c⟩:=serve_all h.core h.srv h.self h.fb
 exact⟨h.core.serve o,a,b,c⟩
theorem But1.mono{k k':Kn}{o:Nat}(h:But1 k o)(hc:Core k' 0 NoD)(m:Mono k k'):But1 k' o:=⟨hc,fun p hp=>(h.srv p hp).mono m.toMonoT (m.x p),h.self.mono m,h.fb.mono m.toMonoT⟩
theorem Pre.touch{k:Kn}(h:Pre k){o:Nat}{x:Th}(hx:k.os o=some x){s:Ob.Sx}(hc:Core (k.setO o { x with x:=s }) 0 NoD)(hs:∀ j t,k.ts j=some t->t.st=2->t.on=(o:Int)->t.wh=5->s.o≠(t.h:Int)):But1 (k.setO o { x with x:=s }) o:=by
 refine⟨hc,fun p hp=>(h.srv p).monoW (fun j u hu hs=>⟨u,hu,hs,rfl,rfl,rfl,rfl,rfl⟩) fun y hy=>?_,fun p y hy j t ht h2 hon hw=>?_,h.fb⟩
 ·rcases touch_at hy with⟨e,_⟩ |⟨_,e⟩
  ·exact absurd e hp
  ·exact⟨y,e,rfl⟩
 ·rcases touch_at hy with⟨rfl,rfl⟩ |⟨_,e⟩
  ·exact hs j t ht h2 hon hw
  ·exact h.self p y e j t ht h2 hon hw
theorem setO_same{k:Kn}{o:Nat}{x:Th}(hx:k.os o=some x):k.setO o { x with x:=x.x }=k:=by
 have:set1 k.os o (some { x with x:=x.x })=k.os:=by
  have e:(some { x with x:=x.x }:Option Th)=k.os o:=by rw [hx]
  rw [e,set1_self]
 unfold Kn.setO
 rw [this]
theorem Pre.try1{k:Kn}(h:Pre k){o:Nat}{x:Th}(hx:k.os o=some x){who wh:Int}{av am:Nat}(hc:Core (k.setO o { x with x:=(Ob.tA x.x who wh av am).2.2 }) 0 NoD)(hw:∀ j t,k.ts j=some t->t.st=2->wh=5->who≠(t.h:Int)):But1 (k.setO o { x with x:=(Ob.tA x.x who wh av am).2.2 }) o:=by
 refine h.touch hx hc fun j t ht h2 hon h5=>?_
 rcases try_own x.x who wh av am with e |⟨e1,e2⟩ | e
 ·rw [e];exact h.self o x hx j t ht h2 hon h5
 ·rw [e2];exact hw j t ht h2 e1
 ·rw [e]
  have:=h.core.hpos ht
  omega
def AskFin(k:Kn)(a:Aq)(R:Bool×Int×Int×Kn):Prop :=
 (R.1=true/\Pre R.2.2.2) ∨
 (R.1=true/\R.2.2.1=0/\Hd.placeE k.oh a.ah=0/\∃ x y,k.os (Hd.placeP k.oh a.ah)=some x/\Ob.Tk.fitB a.wh y.x.k=true/\R.2.2.2=k.setO (Hd.placeP k.oh a.ah) y/\But1 R.2.2.2 (Hd.placeP k.oh a.ah)) ∨
 (R.1=false/\Pre R.2.2.2)
theorem AskFin.ite{k:Kn}{a:Aq}{c:Prop}{d:Decidable c}{x y:Bool×Int×Int×Kn}(hx:c->AskFin k a x)(hy:¬ c->AskFin k a y):AskFin k a (@ite _ c d x y):=by
 split
 ·exact hx (by assumption)
 ·exact hy (by assumption)
theorem sleeps_ts{k:Kn}{i:Nat}{t:Ta}{on:Int}{a:Aq}{j:Nat}{u:Ta}(h:(sleeps k i t on a).ts j=some u):(j=i/\u={ t with st:=2,wh:=a.wh,ah:=a.ah,av:=a.av,am:=a.am,aw:=a.aw,left:=if a.aw < 0 then -1 else a.aw,on:=on,since:=k.wc })∨(j≠i/\k.ts j=some u):=by
 have h':set1 k.ts i (some { t with st:=2,wh:=a.wh,ah:=a.ah,av:=a.av,am:=a.am,aw:=a.aw,left:=if a.aw < 0 then -1 else a.aw,on:=on,since:=k.wc }) j=some u:=h
 by_cases c:j=i
 ·subst c;rw [set1_at] at h';exact Or.inl ⟨rfl,by simpa using h'.symm⟩
 ·rw [set1_ne _ _ c] at h';exact Or.inr ⟨c,h'⟩
theorem sleeps_os{k:Kn}{i:Nat}{t:Ta}{on:Int}{a:Aq}{o:Nat}{y:Th}(h:(sleeps k i t on a).os o=some y):∃ x,k.os o=some x/\y.x=x.x:=by
 have h':rowsF k.os (fun o q=>if on=(o:Int) then Wt.putL q (i:Int) t.rank else q) o=some y:=by rw [←putq_eq];exact h
 obtain⟨x,hx,rfl⟩:=rowsF_some h'
 exact⟨x,hx,rfl⟩
theorem Pre.sleeps{k:Kn}(h:Pre k){i:Nat}{t:Ta}{on:Int}{a:Aq}(hc:Core (sleeps k i t on a) 0 NoD)(hs:∀ (o:Nat) (x:Th),k.os o=some x->on=(o:Int)->(Ob.tA x.x t.h a.wh a.av a.am).2.1≠0/\(a.wh=5->x.x.o≠(t.h:Int))):Pre (sleeps k i t on a):=by
 refine⟨hc,fun o y hy j u hu h2 hon=>?_,fun o y hy j u hu h2 hon hw=>?_,fun j u hu h3=>?_⟩
 ·obtain⟨x,hx,e⟩:=sleeps_os hy
  rcases sleeps_ts hu with⟨_,rfl⟩ |⟨_,hu⟩
  ·rw [e];exact(hs o x hx hon).1
  ·rw [e];exact h.srv o x hx j u hu h2 hon
 ·obtain⟨x,hx,e⟩:=sleeps_os hy
  rcases sleeps_ts hu with⟨_,rfl⟩ |⟨_,hu⟩
  ·rw [e];exact(hs o x hx hon).2 hw
  ·rw [e];exact h.self o x hx j u hu h2 hon hw
 ·rcases sleeps_ts hu with⟨_,rfl⟩ |⟨_,hu⟩
  ·cases h3
  ·exact h.fb j u hu h3
theorem Pre.al{k:Kn}(h:Pre k)(l:List (Int×Int×Int)):Pre { k with al:=l }:=⟨h.core.al l,h.srv,h.self,h.fb⟩
theorem ask1_fin{k:Kn}(h:Pre k){i:Nat}{t:Ta}(ht:k.ts i=some t)(hs:t.st=1)(hd:t.held=false)(a:Aq):AskFin k a (ask1 k i t a):=by
 have same:∀ (v e:Int),AskFin k a (true,v,e,k):=fun v e=>Or.inl ⟨rfl,h⟩
 have h0:=h.core.hpos ht
 have hc:=(ask1_ok h.core ht hs hd a).1
 revert hc
 unfold ask1
 intro hc
 refine AskFin.ite (fun _=>same _ _) fun c1=>AskFin.ite (fun _=>same _ _) fun c2=>AskFin.ite (fun _=>AskFin.ite (fun _=>same _ _) fun c3=>Or.inl ⟨rfl,h.mono (h.core.based ht (by omega)) (mono_one (t':={ t with base:=(a.av:Int) }) ht rfl rfl (fun c=>⟨c,rfl,rfl,rfl,rfl,rfl⟩) (fun c=>(by rw [show({ t with base:=(a.av:Int) }:Ta).st=t.st from rfl,hs] at c;cases c)))⟩) fun c3=>AskFin.ite (fun hw=>AskFin.ite (fun _=>same _ _) fun hr=>AskFin.ite (fun _=>same _ _) fun hz=>Or.inr (Or.inr ⟨rfl,h.sleeps (h.core.sleeps ht hs (by rw [hw];exact Or.inl rfl) hz (by omega) (Or.inl ⟨hw,rfl⟩)) fun o x hx e=>by omega⟩)) fun hw2=>AskFin.ite (fun _=>same _ _) fun he=>?_
 have he':Hd.placeE k.oh a.ah=0:=Classical.byContradiction he
 obtain⟨x,hx,hxz,_⟩:=h.core.thing_at (z:=a.ah) he'
 show AskFin k a (match k.os (Hd.placeP k.oh a.ah) with | none=>_ | some x=>_)
 rw [hx]
 dsimp only
 refine AskFin.ite (fun _=>same _ _) fun hfit=>AskFin.ite (fun _=>Or.inl ⟨rfl,h.al _⟩) fun _=>AskFin.ite (fun _=>Or.inl ⟨rfl,h.al _⟩) fun _=>AskFin.ite (fun _=>same _ _) fun hblk=>?_
 have hf:Ob.Tk.fitB a.wh x.x.k=true:=by
  cases hf:Ob.Tk.fitB a.wh x.x.k with
  | true=>rfl
  | false=>exact absurd (Or.inl hf) hfit
 refine AskFin.ite (fun h7=>?_) fun h7=>?_
 ·have hlive:Live k (t.h:Int):=⟨i,t,ht,rfl,by rw [hs];decide⟩
  have hT:Core (k.setO (Hd.placeP k.oh a.ah) { x with x:=(Ob.tA x.x t.h a.wh a.av a.am).2.2 }) 0 NoD:=h.core.thing hx (try_kind x.x t.h a.wh a.av a.am).1 fun z hz h0=>by
   rcases hz with rfl | hz
   ·rcases try_own x.x t.h a.wh a.av a.am with e | e | e
    ·exact h.core.own _ x hx _ (Or.inl e) h0
    ·exact Or.inl (by rw [e.2];exact hlive)
    ·exact absurd e h0
   ·rcases try_zs x.x t.h a.wh a.av a.am z hz with e | e | e
    ·exact h.core.own _ x hx _ (Or.inr e) h0
    ·exact Or.inl (by rw [e.2];exact hlive)
    ·exact absurd e h0
  by_cases e0:(Ob.tA x.x t.h a.wh a.av a.am).2.1=0
  ·refine Or.inr (Or.inl ⟨rfl,e0,he',x,_,hx,?_,rfl,h.try1 hx hT fun j u hu h2 _ e=>?_⟩)
   ·show Ob.Tk.fitB a.wh (Ob.tA x.x t.h a.wh a.av a.am).2.2.k=true
    rw [(try_kind x.x t.h a.wh a.av a.am).1];exact hf
   ·have:=h.core.apart ht hu (by omega)
    subst this
    rw [ht] at hu
    obtain rfl:t=u:=by simpa using hu
    rw [hs] at h2;cases h2
  ·left
   refine⟨rfl,?_⟩
   show Pre (k.setO _ _)
   rw [try_err x.x t.h a.wh a.av a.am e0,setO_same hx]
   exact h
 ·have h7':(Ob.tA x.x t.h a.wh a.av a.am).2.1=7:=Classical.byContradiction fun c=>h7 c
  obtain⟨m1,m2⟩:=try_wait x.x t.h a.wh a.av a.am h7'
  refine AskFin.ite (fun _=>same _ _) fun haw=>AskFin.ite (fun _=>same _ _) fun _=>Or.inr (Or.inr ⟨rfl,h.sleeps (h.core.sleeps ht hs m1 haw ?_ (Or.inr ⟨m2,_,x,rfl,hx,hxz.symm,hf⟩)) fun o y hy e=>?_⟩)
  ·rcases Int.lt_or_le 1073741824 a.aw with c | c
   ·exact absurd ⟨(blk_iff _ _).2 ⟨m1,haw⟩,c⟩ hblk
   ·exact c
  ·have e':Hd.placeP k.oh a.ah=o:=by omega
   subst e'
   rw [hx] at hy
   obtain rfl:x=y:=by simpa using hy
   exact⟨by rw [h7'];decide,fun h5=>(try_lock x.x t.h a.av a.am (fit_lock _ _ hf h5) (by omega)).2 (by rw [←h5];exact h7')⟩
theorem Fin.askK{k:Kn}(h:Fin k)(a:Aq):Fin (askK k a).2.2:=by
 unfold YtbbdndfibjdcfaaGreat.askK
 split
 ·exact h
 ·rename_i hb
  split
  ·exact h
  ·obtain⟨t,r,_,_,_,ht,hs,hd,_,_⟩:=h.core.first (by simpa using hb)
   simp only [ht]
   split
   ·exact h.endK t.h
   ·obtain⟨c1,c2⟩:=ask1_ok h.core ht hs hd a
    have hF:=ask1_fin h.pre ht hs hd a
    generalize ask1 k (Rd.fsv k.rd).toNat t a=R at *
    split
    ·rename_i hR
     obtain⟨he,t1,h1,h2,h3⟩:=c2 hR
     have hA:=c1.answer (v:=R.2.1) h1 he
     refine Pre.fin ?_
     have hoh:∀ (b:Prop) (d:Decidable b),(@ite _ b d (join (answer R.2.2.2 (Rd.fsv k.rd).toNat R.2.2.1 R.2.1) (Rd.fsv k.rd).toNat) (answer R.2.2.2 (Rd.fsv k.rd).toNat R.2.2.1 R.2.1)).oh=R.2.2.2.oh:=fun b d=>by
      split
      ·unfold join;split
       ·exact(answer_rest _ _).2.1
       ·exact(answer_rest _ _).2.1
      ·exact(answer_rest _ _).2.1
     have hJ:Core (if a.wh=1 then YtbbdndfibjdcfaaGreat.join (YtbbdndfibjdcfaaGreat.answer R.2.2.2 (Rd.fsv k.rd).toNat R.2.2.1 R.2.1) (Rd.fsv k.rd).toNat else YtbbdndfibjdcfaaGreat.answer R.2.2.2 (Rd.fsv k.rd).toNat R.2.2.1 R.2.1) 0 NoD:=by
      split
      ·have h1':(YtbbdndfibjdcfaaGreat.answer R.2.2.2 (Rd.fsv k.rd).toNat R.2.2.1 R.2.1).ts (Rd.fsv k.rd).toNat=some (t1.done R.2.2.1 R.2.1):=by rw [answer_ts h1,set1_at]
       obtain⟨k1,k2,k3,k4,k5,k6,k7⟩:=done_keep t1 R.2.2.1 R.2.1
       exact hA.join h1' (by rw [k7,if_neg (by rw [h2];decide)];exact h2) (by rw [k3];exact h3)
      ·exact hA
     have hM:Mono R.2.2.2 (if a.wh=1 then YtbbdndfibjdcfaaGreat.join (YtbbdndfibjdcfaaGreat.answer R.2.2.2 (Rd.fsv k.rd).toNat R.2.2.1 R.2.1) (Rd.fsv k.rd).toNat else YtbbdndfibjdcfaaGreat.answer R.2.2.2 (Rd.fsv k.rd).toNat R.2.2.1 R.2.1):=by
      split
      ·exact(mono_answer _ _ _ _).trans (mono_join _ _)
      ·exact mono_answer _ _ _ _
     have hoh':=hoh (a.wh=1) inferInstance
     have hos:∀ y,R.2.2.2.os (Hd.placeP k.oh a.ah)=some y->∃ y',(if a.wh=1 then YtbbdndfibjdcfaaGreat.join (YtbbdndfibjdcfaaGreat.answer R.2.2.2 (Rd.fsv k.rd).toNat R.2.2.1 R.2.1) (Rd.fsv k.rd).toNat else YtbbdndfibjdcfaaGreat.answer R.2.2.2 (Rd.fsv k.rd).toNat R.2.2.1 R.2.1).os (Hd.placeP k.oh a.ah)=some y'/\y'.x=y.x:=fun y hy=>by
      have hn:(YtbbdndfibjdcfaaGreat.answer R.2.2.2 (Rd.fsv k.rd).toNat R.2.2.1 R.2.1).os=R.2.2.2.os:=by rw [answer_os h1,if_neg (by rw [h2];decide)]
      split
      ·refine⟨y,?_,rfl⟩
       unfold YtbbdndfibjdcfaaGreat.join
       split <;> (rw [show _=(YtbbdndfibjdcfaaGreat.answer R.2.2.2 (Rd.fsv k.rd).toNat R.2.2.1 R.2.1).os from rfl] ;rw [hn];exact hy)
      ·exact⟨y,by rw [hn];exact hy,rfl⟩
     generalize (if a.wh=1 then YtbbdndfibjdcfaaGreat.join (YtbbdndfibjdcfaaGreat.answer R.2.2.2 (Rd.fsv k.rd).toNat R.2.2.1 R.2.1) (Rd.fsv k.rd).toNat else YtbbdndfibjdcfaaGreat.answer R.2.2.2 (Rd.fsv k.rd).toNat R.2.2.1 R.2.1)=k2 at *
     rcases hF with⟨_,hP⟩ |⟨_,e0,hpe,x,y,hx,hfy,hRe,hB⟩ |⟨hno,_⟩
     ·have hP2:=hP.mono hJ hM
      split
      ·split
       ·split
        ·exact hP2.serve _
        ·exact hP2
       ·exact hP2
      ·exact hP2
     ·have hB2:=hB.mono hJ hM
      have eoh:k2.oh=k.oh:=by rw [hoh',hRe];rfl
      obtain⟨y',hy',ey⟩:=hos y (by rw [hRe];exact set1_at _ _ _)
      rw [eoh]
      rw [if_pos ⟨e0,hpe⟩,hy']
      dsimp only
      rw [if_pos (by rw [ey];exact hfy)]
      exact hB2.serve
     ·rw [hR] at hno;cases hno
    ·rename_i hR
     rcases hF with⟨hyes,_⟩ |⟨hyes,_⟩ |⟨_,hP⟩
     ·exact absurd hyes hR
     ·exact absurd hyes hR
     ·exact hP.fin
theorem Pre.signal1{k:Kn}(h:Pre k)(z v:Nat):Pre (signal1 k z v).2/\((signal1 k z v).1≠0->(signal1 k z v).2=k):=by
 unfold YtbbdndfibjdcfaaGreat.signal1
 by_cases he:Hd.placeE k.oh z=0
 ·rw [if_neg (fun c=>c he)]
  obtain⟨x,hx,_,_⟩:=h.core.thing_at he
  simp only [hx]
  by_cases hk:x.x.k=1∨x.x.k=4
  ·rw [if_pos hk]
   have hw:∀ c:Int,(if x.x.k=1 then(4:Int) else 12)=c->c≠5/\c≠14:=fun c e=>by
    subst e;split <;> decide
   obtain⟨w1,w2⟩:=hw _ rfl
   generalize (if x.x.k=1 then(4:Int) else 12)=wh at *
   generalize (if x.x.k=1 then 0 else v)=av at *
   have hT:=h.core.thing hx (try_kind x.x 1 wh av 0).1 fun y hy h0=>by
    rcases hy with rfl | hy
    ·rcases try_own x.x 1 wh av 0 with e | e | e
     ·exact h.core.own _ x hx _ (Or.inl e) h0
     ·exact absurd e.1 w1
     ·exact absurd e h0
    ·rcases try_zs x.x 1 wh av 0 y hy with e | e | e
     ·exact h.core.own _ x hx _ (Or.inr e) h0
     ·exact absurd e.1 w2
     ·exact absurd e h0
   by_cases e0:(Ob.tA x.x 1 wh av 0).2.1=0
   ·rw [if_pos e0]
    exact⟨(h.try1 hx hT fun j t ht h2 e=>absurd e w1).serve,fun c=>absurd rfl c⟩
   ·rw [if_neg e0]
    have e:k.setO (Hd.placeP k.oh z) { x with x:=(Ob.tA x.x 1 wh av 0).2.2 }=k:=by
     rw [try_err x.x 1 wh av 0 e0];exact setO_same hx
    exact⟨by simp only [e];exact h,fun _=>e⟩
  ·rw [if_neg hk];exact⟨h,fun _=>rfl⟩
 ·rw [if_pos he];exact⟨h,fun _=>rfl⟩
theorem Fin.ranks{k k':Kn}(h:Fin k)(hc:Core k' 0 NoD)(m:Mono k k')(hr:Ranked k'):Fin k':=⟨hc,hr,h.srv.mono m,h.self.mono m⟩
theorem bases_downs(k:Kn):bases (downs k)=bases k:=by
 unfold bases
 refine List.map_congr_left fun i hi=>?_
 unfold downs
 simp only
 cases k.ts i with
 | none=>rfl
 | some t =>
  simp only [Option.map_some]
  split <;> rfl
theorem whom_downs(k:Kn):whom (downs k)=whom k:=by
 have hI:∀ z i,isH (downs k) z i=isH k z i:=fun z i=>by
  unfold isH downs
  simp only
  cases k.ts i with
  | none=>rfl
  | some t =>
   simp only [Option.map_some]
   split <;> rfl
 have hO:∀ z,ownerOf (downs k) z=ownerOf k z:=fun z=>by
  unfold ownerOf
  rw [show isH (downs k) z=isH k z from funext (hI z)]
 have hw:∀ o,owner (downs k) o=owner k o:=fun o=>by
  unfold owner
  rw [show(downs k).os=k.os from rfl]
  cases k.os o with
  | none=>rfl
  | some x=>exact hO _
 unfold whom
 refine List.map_congr_left fun i hi=>?_
 have:(downs k).ts i=(k.ts i).map fun t=>if 0 < t.left/\i < 16 then { t with left:=t.left - 1 } else t:=rfl
 rw [this]
 cases k.ts i with
 | none=>rfl
 | some t =>
  simp only [Option.map_some]
  unfold whomT
  split <;> simp only [hw]
theorem Ranked.downs{k:Kn}(h:Ranked k):Ranked (downs k):=by
 refine⟨fun i u hu hs=>?_,fun i u hu=>?_⟩
 ·rw [bases_downs,whom_downs]
  obtain⟨t,ht,rfl⟩:=downs_t hu
  obtain⟨_,k2,_,k4,_⟩:=downs_keep t i
  rw [k4]
  exact h.rank i t ht (by rw [←k2];exact hs)
 ·obtain⟨t,ht,rfl⟩:=downs_t hu
  have:=h.base i t ht
  split <;> exact this
theorem over1_ranked{k:Kn}{D:Nat->Prop}(h:Core k 0 D)(hf:FB k)(i:Nat):Ranked (over1 k i):=by
 unfold over1
 cases ht:k.ts i with
 | none=>exact anew_ranked h hf
 | some t=>exact anew_ranked (h.answer ht (by split <;> omega)) (hf.mono (mono_answer k i _ _).toMonoT)
theorem overs_ranked{D:Nat->Prop}:∀ (l:List Nat) (k:Kn),Core k 0 D->FB k->Ranked k->Ranked (l.foldl over1 k)
 | [],k,h,hf,hr=>hr
 | i :: r,k,h,hf,hr=>overs_ranked r (over1 k i) (h.over1 i) (hf.mono (mono_over1 k i).toMonoT) (over1_ranked h hf i)
theorem Core.over{k:Kn}(h1:Core k 0 NoD):Core (overs (YtbbdndfibjdcfaaGreat.downs k) (dueT k)) 0 NoD:=by
 obtain⟨a1,a2,a3⟩:=overs_ok (dueT k) (YtbbdndfibjdcfaaGreat.downs k) _ h1.downs
 rw [←overs_eq] at a1 a2 a3
 refine⟨a1.th,a1.oh,a1.thT,a1.ohO,a1.hT,a1.hO,a1.rdG,a1.rdT,a1.qG,a1.qT,fun i t ht=>?_,a1.own⟩
 have hok:=a1.tOk i t ht
 refine⟨hok.st,hok.base,hok.rank,hok.ans,hok.last,hok.on,fun hs=>?_,hok.idle⟩
 obtain⟨m1,m2,m3,m4⟩:=hok.ask hs
 refine⟨m1,m2,m3,m4.imp id fun hd=>?_⟩
 obtain⟨t0,ht0,hl⟩:=hd
 exact absurd hs (a3 i (dueT_mem.2 ⟨(h1.hT i t0 ht0).1,t0,ht0,hl⟩) t ht)
theorem Fin.over{k:Kn}(h:Fin k):Fin (overs (downs k) (dueT k)):=by
 refine h.ranks h.core.over ((mono_downs k).trans (by rw [overs_eq];exact mono_overs _ _)) ?_
 rw [overs_eq]
 exact overs_ranked _ _ h.core.downs (h.fb.mono (mono_downs k).toMonoT) h.ranked.downs
noncomputable def ring1(k:Kn)(o:Int):Kn:=match k.os o.toNat with | some x=>anew (signal1 k x.x.a.toNat x.x.b.toNat).2 | none=>k
theorem Fin.rings:∀ (l:List Int) (k:Kn),Fin k->Fin (l.foldl ring1 k)
 | [],k,h=>h
 | o :: r,k,h=>by
  refine Fin.rings r (ring1 k o) ?_
  unfold ring1
  split
  ·exact(h.pre.signal1 _ _).1.fin
  ·exact h
theorem tick_eq(k:Kn)(k1:Kn)(e:k1=anew (slice1 { k with now:=(k.now+1) % 4294967296 }))(k2:Kn)(e2:k2=overs (downs k1) (dueT k1)):tickK k=((Tm.due k2.al).map Prod.fst).foldl ring1 { k2 with al:=Tm.tickL k2.al }:=by
 subst e2;subst e;rfl
theorem Fin.tickK{k:Kn}(h:Fin k):Fin (tickK k):=by
 have hn:Fin { k with now:=(k.now+1) % 4294967296 }:=⟨h.core.now _,⟨h.ranked.rank,h.ranked.base⟩,h.srv,h.self⟩
 have h1:Fin (anew (slice1 { k with now:=(k.now+1) % 4294967296 })):=hn.mono hn.core.slice1 (mono_slice1 _)
 have h2:=h1.over
 rw [tick_eq k _ rfl _ rfl]
 exact Fin.rings _ _ ⟨h2.core.al _,⟨h2.ranked.rank,h2.ranked.base⟩,h2.srv,h2.self⟩
end Go.Proofs.YtbbdndfibjdcfaaGreat
namespace Go.Proofs.YtbbdndfibjdcfaaGreat
open Go Go.RowKit
theorem rmX_no{X:Nat->List Int}{z:Int}(h:Rd.rkb X z=false):Rd.rmX X z=X:=by
 unfold Rd.rmX
 cases e:Rd.rk X z with
 | none=>rfl
 | some r=>unfold Rd.rkb at h;rw [e] at h;cases h
theorem may_iff{t:Ta}:t.may=true↔t.st=1/\t.held=false:=by unfold Ta.may;simp
section
variable {k:Kn} {g:Int} {D:Nat->Prop}
theorem Core.rkb_may(h:Core k g D){i:Nat}{t:Ta}(ht:k.ts i=some t):Rd.rkb k.rd (i:Int)=t.may:=by
 have h1:=h.rkb ht
 rw [←may_iff] at h1
 exact Bool.eq_iff_iff.2 h1
theorem joinC_eq{i:Nat}{t:Ta}(ht:k.ts i=some t):joinC k i=if t.may then join k i else k:=by unfold joinC;rw [ht]
theorem answerC_of{i:Nat}{t:Ta}(ht:k.ts i=some t)(hno:t.st=2->Rd.rkb k.rd (i:Int)=false)(e v:Int):answerC k i e v=answer k i e v:=by
 unfold YtbbdndfibjdcfaaGreat.answerC YtbbdndfibjdcfaaGreat.answer
 simp only [ht]
 by_cases hs:t.st=2
 ·rw [if_pos hs,if_pos hs]
  have hr:Rd.rmX k.rd (i:Int)=k.rd:=rmX_no (hno hs)
  have e1:restC (k.setT i (t.told e v)) i={ k with os:=unq k.os i t.on,ts:=set1 k.ts i (some (t.told e v).idle) }:=by
   unfold restC
   simp only [setT_at]
   simp only [Kn.setT,hr,set1_set1]
   rfl
  rw [e1]
  have e2:(Kn.setT { k with os:=unq k.os i t.on,ts:=set1 k.ts i (some (t.told e v).idle) } i { (t.told e v).idle with st:=1 })={ k with os:=unq k.os i t.on,ts:=set1 k.ts i (some { (t.told e v).idle with st:=1 }) }:=by
   simp only [Kn.setT,set1_set1]
  rw [e2,joinC_eq (set1_at _ _ _)]
  have e3:Ta.may { (t.told e v).idle with st:=1 }=!t.held:=by unfold Ta.may;simp [Ta.told,Ta.idle]
  rw [e3]
  cases t.held <;> rfl
 ·rw [if_neg hs,if_neg hs]
theorem Core.rkb_no(h:Core k g D){i:Nat}{t:Ta}(ht:k.ts i=some t)(hs:t.st=2):Rd.rkb k.rd (i:Int)=false:=by
 rw [h.rkb_may ht]
 unfold Ta.may
 rw [hs]
 rfl
theorem Core.answerC(h:Core k g D){i:Nat}{t:Ta}(ht:k.ts i=some t)(e v:Int):YtbbdndfibjdcfaaGreat.answerC k i e v=YtbbdndfibjdcfaaGreat.answer k i e v:=answerC_of ht (h.rkb_no ht) e v
theorem Core.turnS(h:Core k g D)(l:List Int)(i:Nat):turnS l k i=YtbbdndfibjdcfaaGreat.turn1 l k i:=by
 unfold YtbbdndfibjdcfaaGreat.turnS YtbbdndfibjdcfaaGreat.turn1
 cases ht:k.ts i with
 | none=>rfl
 | some t =>
  simp only
  by_cases hc:t.st=3∨t.rank=l.getD i 0
  ·rw [if_pos hc,if_pos hc]
  ·rw [if_neg hc,if_neg hc]
   unfold turnC
   simp only [ht]
   rw [joinC_eq (setT_at _ _ _)]
   have hm:Ta.may { t with rank:=l.getD i 0 }=t.may:=rfl
   rw [hm,h.rkb_may ht]
   cases hmay:t.may with
   | true =>
    have hid:=(h.tOk i t ht).idle (by have:=may_iff.1 hmay;omega)
    have hn:¬ 0<=t.on:=by omega
    have e2:chq k.os i t.on (l.getD i 0)=k.os:=by unfold chq;exact if_neg hn
    simp only [if_true,if_neg hn,e2]
    rfl
   | false =>
    simp only [Bool.false_eq_true,if_false]
    by_cases ho:0<=t.on
    ·rw [if_pos ho]
     unfold chq
     rw [if_pos ho]
     show(match k.os t.on.toNat with | some x=>_ | none=>_)=_
     cases k.os t.on.toNat <;> rfl
    ·rw [if_neg ho]
     unfold chq
     rw [if_neg ho]
     rfl
theorem Core.tellC{l:List Int}(hl:∀ i,0<=l.getD i 0/\l.getD i 0<=31):∀ (is:List Nat) {k:Kn},Core k g D->is.foldl (YtbbdndfibjdcfaaGreat.turnS l) k=is.foldl (YtbbdndfibjdcfaaGreat.turn1 l) k
 | [],_,_=>rfl
 | i :: is,k,h=>by
  rw [List.foldl_cons,List.foldl_cons,h.turnS]
  exact Core.tellC hl is (h.turn1 l hl i)
theorem Core.hfit(h:Core k g D){i:Nat}{t:Ta}(ht:k.ts i=some t):t.h<=4294967295:=by
 obtain⟨h1,h2⟩:=h.hT i t ht
 have:=h.th.top i
 rw [h2]
 unfold Hd.hd
 omega
theorem Core.nm(h:Core k g D)(hg:0<=g/\g<=4294967295):Nm k:=by
 refine⟨fun z hz=>?_,fun z hz=>?_,fun o x hx=>?_,fun i t ht ho=>?_,fun hb=>?_⟩
 ·obtain⟨t,h1,_⟩:=h.task_at hz
  exact⟨t,h1⟩
 ·obtain⟨x,h1,_⟩:=h.thing_at hz
  exact⟨x,h1⟩
 ·by_cases h0:x.x.o=0
  ·omega
  ·rcases h.own o x hx x.x.o (Or.inl rfl) h0 with⟨i,t,ht,e,_⟩ | e
   ·have:=h.hfit ht;omega
   ·omega
 ·by_cases hs:t.st=2
  ·rcases(h.tOk i t ht).on hs with⟨_,e⟩ |⟨_,o,x,e,hx,_⟩
   ·omega
   ·exact⟨x,by rw [e];exact hx⟩
  ·have:=((h.tOk i t ht).idle hs).1
   omega
 ·obtain⟨t,r,h1,h2,h3,h4,_⟩:=h.first hb
  exact⟨_,t,h3,h4⟩
theorem Core.ownC(h:Core k g D){z:Int}(hz:0<=z):YtbbdndfibjdcfaaGreat.ownC k z=ownerOf k z:=by
 obtain⟨n,rfl⟩:=Int.eq_ofNat_of_zero_le hz
 unfold YtbbdndfibjdcfaaGreat.ownC ownerOf
 simp only [Int.toNat_natCast]
 by_cases h0:n=0
 ·subst h0
  have:Hd.placeE k.th 0≠0:=fun e=>(h.task_at e).elim fun t ht=>ht.2.2 rfl
  rw [if_neg this]
  exact(if_pos rfl).symm
 ·rw [if_neg (by omega:¬ ((n:Int)=0))]
  by_cases he:Hd.placeE k.th n=0
  ·obtain⟨t,ht,hh,_⟩:=h.task_at he
   rw [if_pos he]
   have hlt:=(h.hT _ t ht).1
   have hfind:(List.range 16).find? (isH k (n:Int))=some (Hd.placeP k.th n):=by
    cases hf:(List.range 16).find? (isH k (n:Int)) with
    | none =>
     have:=List.find?_eq_none.1 hf (Hd.placeP k.th n) (by simpa using hlt)
     unfold isH at this
     rw [ht] at this
     simp [hh] at this
    | some j =>
     have hj:=List.find?_some hf
     unfold isH at hj
     cases hu:k.ts j with
     | none=>rw [hu] at hj;cases hj
     | some u =>
      rw [hu] at hj
      simp only [decide_eq_true_eq] at hj
      rw [h.apart hu ht (by omega)]
   rw [hfind]
  ·rw [if_neg he]
   have hfind:(List.range 16).find? (isH k (n:Int))=none:=by
    refine List.find?_eq_none.2 fun j hj hc=>?_
    unfold isH at hc
    cases hu:k.ts j with
    | none=>rw [hu] at hc;cases hc
    | some u =>
     rw [hu] at hc
     simp only [decide_eq_true_eq] at hc
     have hG:=h.hT j u hu
     have h3:(k.th j).2=true:=by rw [h.thT j,hu];rfl
     have h1:=h.th.one j h3
     refine he ?_
     have e:n=(k.th j).1 * 256+j:=by have:=hG.2;unfold Hd.hd at this;omega
     refine Hd.placeE_of ?_ ?_ ?_
     ·omega
     ·rw [show n % 256=j by omega];omega
     ·rw [show n % 256=j by omega];exact h3
   rw [hfind]
def Kd(k:Kn):Prop:=∀ o x,k.os o=some x->x.x.k≠2->x.x.o=0
theorem Core.awL(h:Core k g D)(hg:0<=g/\g<=4294967295)(hk:Kd k):YtbbdndfibjdcfaaGreat.awL k=whom k:=by
 unfold YtbbdndfibjdcfaaGreat.awL whom
 refine List.map_congr_left fun i hi=>?_
 unfold awC
 cases ht:k.ts i with
 | none=>rfl
 | some t =>
  simp only
  unfold whomT
  by_cases ho:0<=t.on
  ·rw [if_pos ho]
   have hs:t.st=2:=by
    by_cases hs:t.st=2
    ·exact hs
    ·have:=((h.tOk i t ht).idle hs).1;omega
   rcases(h.tOk i t ht).on hs with⟨_,e⟩ |⟨_,o,x,e,hx,_,hf⟩
   ·omega
   ·have e2:t.on.toNat=o:=by omega
    rw [e2]
    simp only [hx]
    have hn:=(h.nm hg).own o x hx
    rw [h.ownC hn.1]
    by_cases hw:t.wh=5
    ·rw [if_pos ⟨hw,ho⟩]
     unfold owner
     rw [hx]
    ·rw [if_neg (fun c=>hw c.1)]
     have hkx:x.x.k≠2:=fun c=>by
      rw [c] at hf
      exact hw (fit_lock' t.wh hf ((h.tOk i t ht).ask hs).1)
     rw [hk o x hx hkx]
     unfold ownerOf
     rw [if_pos rfl]
  ·rw [if_neg ho,if_neg (fun c=>ho c.2)]
theorem Core.val(h:Core k g D)(hs:SelfK k):Hr.Val (bases k) (whom k):=by
 refine⟨by rw [bases_len,whom_len],by rw [bases_len];omega,fun i hi=>bases_in h i,whom_plc k,fun i hi e=>?_⟩
 rw [whom_len] at hi
 rw [whom_at hi] at e
 cases ht:k.ts i with
 | none=>rw [ht] at e;simp only at e;omega
 | some t =>
  rw [ht] at e
  simp only at e
  unfold whomT at e
  split at e
  ·rename_i hc
   have hst:t.st=2:=by
    by_cases hs:t.st=2
    ·exact hs
    ·have:=((h.tOk i t ht).idle hs).1;omega
   rcases(h.tOk i t ht).on hst with⟨c,_⟩ |⟨_,o,x,e1,hx,_⟩
   ·omega
   ·have e2:t.on.toNat=o:=by omega
    rw [e2] at e
    unfold owner at e
    rw [hx] at e
    simp only at e
    have hne:=hs o x hx i t ht hst e1 hc.1
    unfold ownerOf at e
    split at e
    ·omega
    ·cases hf:(List.range 16).find? (isH k x.x.o) with
     | none=>rw [hf] at e;simp only at e;omega
     | some j =>
      rw [hf] at e
      simp only at e
      have hj:=List.find?_some hf
      obtain rfl:j=i:=by omega
      unfold isH at hj
      rw [ht] at hj
      simp only [decide_eq_true_eq] at hj
      exact hne hj.symm
  ·omega
theorem ranks_one(h:Core k g D)(hs:SelfK k){l:List Int}(hl:Hr.Lst (bases k) (whom k) l):ranksL (bases k) (whom k)=l:=Hr.Lst.same (h.val hs) (lst_of h) hl
theorem Core.tell(h:Core k g D)(hg:0<=g/\g<=4294967295)(hk:Kd k)(hs:SelfK k){l:List Int}(hl:Hr.Lst (bases k) (YtbbdndfibjdcfaaGreat.awL k) l):YtbbdndfibjdcfaaGreat.tellC l k=YtbbdndfibjdcfaaGreat.anew k:=by
 rw [h.awL hg hk] at hl
 have e:=ranks_one h hs hl
 subst e
 exact Core.tellC (ranks_in (bases_in h)) _ h
end
theorem tell_any{o0:Nat->Nat}{w0 w:World}{G:Geo}{k:Kn}{D:Nat->Prop}(h:St o0 w0 G w k)(hc:Core k 0 D)(hk:Kd k)(hs:SelfK k)(u:FrameMode):CallsD Tryz.prog 52 #[.pointer (some ⟨G.kp,0,none⟩)] u w fun e u' w'=>u'=u/\(e=.returned (.tuple #[])/\St o0 w0 G w' (anew k)) :=
 (tellRanks_any h (hc.nm (by omega)) ((hc.awL (by omega) hk).symm ▸ hc.val hs) u).mono fun e u' w' ⟨h1,h2,l,hl,h3⟩=>⟨h1,h2,hc.tell (by omega) hk hs hl ▸ h3⟩
theorem St.kd{o0:Nat->Nat}{w0 w:World}{G:Geo}{k:Kn}(h:St o0 w0 G w k):Kd k:=fun o x hx hk=>by
 obtain⟨own,h,y⟩:=h
 have:=(h.obj o x hx (by omega)).2
 generalize x.x=T at *
 cases this <;> first | rfl | exact absurd rfl hk
end Go.Proofs.YtbbdndfibjdcfaaGreat
namespace Go.Proofs.YtbbdndfibjdcfaaGreat
open Go Go.RowKit
theorem tPt_at{G:Geo}{ts:Nat->Option Ta}{i:Nat}{t:Ta}(h:ts i=some t):tPt G ts i=.pointer (some ⟨G.tp i,0,none⟩):=by unfold tPt;rw [h];rfl
end Go.Proofs.YtbbdndfibjdcfaaGreat
