/- Package kernel, proved: part KtK6. No law of the program itself. -/
import Derived.Maps.AppendAt
import Derived.WalkKit
import Derived.Carry
import Derived.ChangeMaps5
import Derived.Test.YtbbdndfibjdcfaaGreatKtOb2
import Derived.Test.YtbbdndfibjdcfaaGreatKtK3
import Derived.Test.YtbbdndfibjdcfaaGreatKtK5
import Derived.Test.YtbbdndfibjdcfaaGreatKtA1
set_option maxRecDepth 100000
set_option linter.all false
set_option maxHeartbeats 16000000
namespace Go.Proofs.YtbbdndfibjdcfaaGreat
open Go Go.RowKit
section
variable {o0:Nat->Nat} {w0 w w':World} {G:Geo} {k:Kn}
theorem ask_none(h:St o0 w0 G w k)(hf:Fin k)(hb:Rd.fsb k.rd=false)(a:Aq):Calls Tryz.prog 33 #[.pointer (some ⟨G.kp,0,none⟩),aqV a] w fun e w'=>e=.returned (.tuple #[.bool false,.int .i64 7])/\Below w.heap.size w w':=by
 have hb0:=alloc_below w (.cells (aqC a) 38)
 have h1:=h.below hb0
 have HTh:=there_any h1 h1.slo.1.1
 have HRun:=running_any h1 (run_in h1 (hf.core.nm (by omega)))
 rw [runP_no hb] at HRun
 have HB:Hid (Below w.heap.size w (w.alloc (.cells (aqC a) 38))):=hb0
 clear h h1 hf hb hb0
 go_enter Tryz.func33,Tryz.ntmps33
 go_wp2_with (first
  |(go_at_call 41;refine HTh.mono ?_;rintro e w1 ⟨rfl,rfl⟩)
  |(go_at_call 65;refine HRun.mono ?_;rintro e w1 ⟨rfl,_,b1⟩;have B1:Hid (Below w.heap.size w w1):=HB.out.trans (b1.mono HB.out.size);clear b1))
 go_ret2
 exact⟨rfl,B1.out⟩
theorem ask_what(h:St o0 w0 G w k)(hf:Fin k)(hb:Rd.fsb k.rd=true){i:Nat}{t:Ta}(hi:i=(Rd.fsv k.rd).toNat)(ht:k.ts i=some t)(a:Aq)(hg:doF a.wh=none)(hw8:W8 a.wh):Calls Tryz.prog 33 #[.pointer (some ⟨G.kp,0,none⟩),aqV a] w fun e w'=>e=.returned (.tuple #[.bool false,.int .i64 1])/\Below w.heap.size w w':=by
 have hb0:=alloc_below w (.cells (aqC a) 38)
 have h1:=h.below hb0
 have HTh:=there_any h1 h1.slo.1.1
 have HRun:=running_any h1 (run_in h1 (hf.core.nm (by omega)))
 rw [runP_yes hb (by rw [←hi];exact ht),←hi] at HRun
 have HB:Hid (Below w.heap.size w (w.alloc (.cells (aqC a) 38))/\(w.alloc (.cells (aqC a) 38)).heap.size=w.heap.size+1):=⟨hb0,alloc_size w _⟩
 have HG:Hid (doF a.wh=none/\W8 a.wh):=⟨hg,hw8⟩
 clear h h1 hf hb hb0 hg hw8 hi ht
 go_enter Tryz.func33,Tryz.ntmps33
 go_wp2_with (first
  |(go_at_call 41;refine HTh.mono ?_;rintro e w1 ⟨rfl,rfl⟩)
  |(go_at_call 65;refine HRun.mono ?_;rintro e w1 ⟨rfl,_,b1⟩;have B1:Hid (Below w.heap.size w w1):=HB.out.1.trans (b1.mono HB.out.1.size);obtain⟨y0,y1,y2,y3,y4⟩:=asked_cells (w:=w) (a:=a) (by rw [←HB.out.2];exact b1);clear b1))
 go_region_held3 (fun w'=>w'.cell? ⟨w.heap.size,0,none⟩=some (.int .u8 a.wh)) (go_keep) (first
  |(go_at_call 76;refine(doings_any _).mono ?_;rintro e w2 ⟨rfl,fm,b2⟩;have B2:Hid (Below w.heap.size w w2):=B1.out.trans (((below_drewN w1 1).trans b2).mono B1.out.size);have z0:=(((below_drewN w1 1).trans b2).cell (p:=⟨w.heap.size,0,none⟩) (cell_lt y0)).trans y0;obtain⟨vv,hlk⟩:=look_run_no (z:=a.wh) fm HG.out.2 HG.out.1;have hlk2:(Instr.lookup 156 (.map (some w1.heap.size)) (.int .u8 a.wh) true).run Tryz.prog w2=.ok (.tuple #[vv,.bool false]) w2:=hlk;clear b2 fm hlk)
  | fail)
 go_wp2
 go_ret2
 exact⟨rfl,B2.out⟩
theorem St.anS(h:St o0 w0 G w k):St o0 w0 (Geo.anS G) w k:=by
 obtain⟨own,h,x⟩:=h
 refine⟨own,⟨h.kern,h.tn,h.on,h.ta,h.oa,h.rd,h.en,fun c=>?_,h.nc,h.slo,h.av,h.xs,h.ti,h.oi,h.task,h.thg,fun o y hy c=>?_,h.que⟩,x⟩
 ·obtain⟨a,b,d,v,e,f⟩:=h.al c
  exact⟨a,b,d,v,e,f.mono (Nat.le_succ _)⟩
 ·obtain⟨a,b⟩:=h.obj o y hy c
  exact⟨⟨a.p,a.f,a.g,a.gf⟩,b⟩
structure Nx (G G':Geo):Prop where
 kp:G'.kp=G.kp
 sh:Shown G->Shown G'
 an:G'.an<=G.an+1
theorem Nx.refl(G:Geo):Nx G G:=⟨rfl,fun h=>h,Nat.le_succ _⟩
theorem ask_any(h:St o0 w0 G w k)(hG:Shown G)(hf:Fin k)(a:Aq)(hw8:W8 a.wh)(hah:a.ah<=4294967295)(hav:a.av < 4294967296)(ham:a.am < 4294967296)(han:G.an<=100000):Calls Tryz.prog 33 #[.pointer (some ⟨G.kp,0,none⟩),aqV a] w fun e w'=>e=.returned (.tuple #[.bool (askK k a).1,.int .i64 (askK k a).2.1])/\∃ G',Nx G G'/\St o0 w0 G' w' (askK k a).2.2:=by
 cases hb:Rd.fsb k.rd with
 | false =>
  have e:askK k a=(false,7,k):=by unfold askK;rw [if_pos hb]
  rw [e]
  exact(ask_none h hf hb a).mono fun e w' ⟨he,hbl⟩=>⟨he,G,Nx.refl G,h.below hbl⟩
 | true =>
  obtain⟨t,r,_,_,_,ht,hs,hd,_,_⟩:=hf.core.first hb
  obtain⟨i,hi⟩:∃ i,i=(Rd.fsv k.rd).toNat:=⟨_,rfl⟩
  rw [←hi] at ht
  by_cases hw:a.wh < 1∨20 < a.wh
  ·have e:askK k a=(false,1,k):=by unfold askK;rw [if_neg (by rw [hb];decide),if_pos hw]
   rw [e]
   exact(ask_what h hf hb hi ht a (by unfold doF;rw [if_pos hw]) hw8).mono fun e w' ⟨he,hbl⟩=>⟨he,G,Nx.refl G,h.below hbl⟩
  ·have hr:Rn k i t:=⟨hf.core,ht,hs,hd⟩
   by_cases h20:a.wh=20
   ·obtain⟨hp,hpi⟩:=hf.core.place ht
    have ht':k.ts (Hd.placeP k.th t.h)=some t:=by rw [hpi];exact ht
    obtain⟨hc0,hs0⟩:=gone_lets hf hp ht' rfl (hf.core.hpos ht)
    rw [hpi] at hc0 hs0
    have hl:leaves k i={ k with os:=unq k.os i t.on,ts:=set1 k.ts i (some t.idle) }:=by unfold leaves;rw [ht]
    have e:askK k a=(true,0,anew (lets (gone1 k t.h i t) t.h)):=by
     unfold askK
     rw [if_neg (by rw [hb];decide),if_neg hw]
     simp only [←hi,ht]
     rw [if_pos h20]
     unfold endK gone1
     simp only [hp,hpi,ne_eq,not_true_eq_false,if_false,hl,set1_set1]
    rw [e]
    exact(ask_endSelf h hf hb hi ht a (by unfold doF;rw [h20];rfl) hw8 hc0 hs0 fun wx hx=>endSelf_any hx hG hf ht a).mono fun e w' ⟨he,hS⟩=>⟨he,G,Nx.refl G,hS⟩
   ·have hP:=askS_pre hf.pre ht hs hd a
    rw [askK_is hb hw hi ht h20]
    have go:∀ {P:Ending->World->Prop},(Calls Tryz.prog 33 #[.pointer (some ⟨G.kp,0,none⟩),aqV a] w fun e w'=>e=.returned (.tuple #[.bool (ask1 k i t a).1,.int .i64 (ask1 k i t a).2.2.1])/\St o0 w0 G w' (anew (askS k i t a)))->Calls Tryz.prog 33 #[.pointer (some ⟨G.kp,0,none⟩),aqV a] w fun e w'=>e=.returned (.tuple #[.bool (ask1 k i t a).1,.int .i64 (ask1 k i t a).2.2.1])/\∃ G',Nx G G'/\St o0 w0 G' w' (anew (askS k i t a)):=fun {_} hh=>hh.mono fun e w' ⟨he,hS⟩=>⟨he,G,Nx.refl G,hS⟩
    by_cases h1:a.wh=1
    ·exact go (P:=fun _ _=>True) (ask_yield h hf hb hi ht a (by unfold doF;rw [h1];rfl) hw8 hP.core hP.self fun wx hx=>yield_any hx hr a h1)
    by_cases h2:a.wh=2
    ·exact go (P:=fun _ _=>True) (ask_sleep h hf hb hi ht a (by unfold doF;rw [h2];rfl) hw8 hP.core hP.self fun wx hx=>sleep_any hx hr a hav h2)
    by_cases h18:a.wh=18
    ·exact go (P:=fun _ _=>True) (ask_setBase h hf hb hi ht a (by unfold doF;rw [h18];rfl) hw8 hP.core hP.self fun wx hx=>setBase_any hx hr a h18)
    by_cases h19:a.wh=19
    ·exact go (P:=fun _ _=>True) (ask_tellNow h hf hb hi ht a (by unfold doF;rw [h19];rfl) hw8 hP.core hP.self fun wx hx=>tellNow_any hx hr a h19)
    by_cases h16:a.wh=16
    ·rcases askE_alarm (Or.inl h16) hf.core with⟨he,e1⟩ |⟨he,hp,x,hx,h6,hfit,e1⟩
     ·exact(ask_start h hf hb hi ht a (by unfold doF;rw [h16];rfl) hw8 hP.core hP.self fun wx hx'=>(start_no hx' hG hr a hah h16 he (e1 i t)).mono fun e w' ⟨he,hS⟩=>⟨he,hS.anS⟩).mono fun e w' ⟨he,hS⟩=>⟨he,Geo.anS G,⟨rfl,fun c=>c,Nat.le_refl _⟩,hS⟩
     ·have e1':=e1 i t
      rw [if_pos h16] at e1'
      exact(ask_start h hf hb hi ht a (by unfold doF;rw [h16];rfl) hw8 hP.core hP.self fun wx hx'=>start_yes hx' hG hr a hah hav ham han h16 he hx h6 e1').mono fun e w' ⟨he,hS⟩=>⟨he,Geo.anS G,⟨rfl,fun c=>c,Nat.le_refl _⟩,hS⟩
    by_cases h17:a.wh=17
    ·refine go (P:=fun _ _=>True) (ask_stop h hf hb hi ht a (by unfold doF;rw [h17];rfl) hw8 hP.core hP.self fun wx hx=>?_)
     rcases askE_alarm (Or.inr h17) hf.core with⟨he,e1⟩ |⟨he,hp,x,hx',h6,hfit,e1⟩
     ·exact stop_no hx hG hr a hah h17 he (e1 i t)
     ·have e1':=e1 i t
      rw [if_neg (by omega)] at e1'
      exact stop_yes hx hG hr a hah hav ham han h17 he hx' h6 e1'
    ·exact go (P:=fun _ _=>True) (ask_try h hf hb hi ht a (by unfold doF;rw [if_neg (by omega),if_neg h1,if_neg h2,if_neg h16,if_neg h17,if_neg h18,if_neg h19,if_neg h20]) hw8 hP.core hP.self fun wx hx=>try_any hx hG hr a hah hav (by omega))
end
end Go.Proofs.YtbbdndfibjdcfaaGreat
namespace Go.Proofs.YtbbdndfibjdcfaaGreat
open Go Go.RowKit
noncomputable section
def anL(l:List Int)(k:Kn):Kn:=(List.range 16).foldl (turn1 l) k
def bs2(a b:Int):List Int:=[a,b,0,0,0,0,0,0,0,0,0,0,0,0,0,0]
def ws2(b:Int):List Int:=[-1,b,-1,-1,-1,-1,-1,-1,-1,-1,-1,-1,-1,-1,-1,-1]
theorem val_of{bs ws:List Int}(h:bs.length=ws.length/\bs.length<=256/\(∀ i,i < bs.length->0<=bs.getD i 0/\bs.getD i 0<=31)/\(∀ i,i < ws.length->-1<=ws.getD i 0/\ws.getD i 0 < ws.length)/\∀ i,i < ws.length->ws.getD i 0≠(i:Int)):Hr.Val bs ws:=⟨h.1,h.2.1,h.2.2.1,h.2.2.2.1,h.2.2.2.2⟩
theorem rk_free{bs:List Int}(hv:Hr.Val bs (ws2 (-1))):ranksL bs (ws2 (-1))=bs:=by
 refine Hr.Lst.same hv (ranks_lst hv.rank hv.len hv.plc) ⟨Hr.Mid.start _ _,fun i hi h0=>?_⟩
 have:∀ i,i < (ws2 (-1)).length->¬ 0<=(ws2 (-1)).getD i 0:=by decide +kernel
 exact absurd h0 (this i hi)
theorem rk_lent:ranksL (bs2 1 5) (ws2 0)=bs2 5 5:=by
 have hv:Hr.Val (bs2 1 5) (ws2 0):=val_of (by decide +kernel)
 refine Hr.Lst.same hv (ranks_lst hv.rank hv.len hv.plc) ⟨⟨rfl,?_,fun i hi=>?_⟩,?_⟩
 ·decide +kernel
 ·by_cases c:i=0
  ·subst c;exact⟨1,1,by decide +kernel,by decide +kernel,by decide +kernel⟩
  ·have:∀ i,i < (bs2 1 5).length->i≠0->(bs2 5 5).getD i 0=(bs2 1 5).getD i 0:=by decide +kernel
   exact⟨i,0,hi,rfl,this i hi c⟩
 ·unfold Hr.Shut;decide +kernel
theorem anew_free{k:Kn}{bs:List Int}(hb:bases k=bs)(hw:whom k=ws2 (-1))(hv:Hr.Val bs (ws2 (-1))):anew k=anL bs k:=by
 unfold anew anL
 rw [hb,hw,rk_free hv]
theorem val10:Hr.Val (bs2 1 0) (ws2 (-1)):=val_of (by decide +kernel)
theorem val15:Hr.Val (bs2 1 5) (ws2 (-1)):=val_of (by decide +kernel)
theorem anew_lent{k:Kn}(hb:bases k=bs2 1 5)(hw:whom k=ws2 0):anew k=anL (bs2 5 5) k:=by
 unfold anew anL
 rw [hb,hw,rk_lent]
def tL(h:Nat)(r:Int):Ta:=⟨h,1,false,r,r,0,0,0,0,0,0,0,0,0,-1,0,0⟩
def v0:Kn:=new0 2 0
def x1:Kn:=join { v0 with th:=Hd.makeS 16 v0.th,ts:=set1 v0.ts (Hd.fr 16 v0.th) (some (tL (Hd.makeH 16 v0.th) 1)) } (Hd.fr 16 v0.th)
def v1:Kn:=anL (bs2 1 0) x1
def x2:Kn:=join { v1 with th:=Hd.makeS 16 v1.th,ts:=set1 v1.ts (Hd.fr 16 v1.th) (some (tL (Hd.makeH 16 v1.th) 5)) } (Hd.fr 16 v1.th)
def v2:Kn:=anL (bs2 1 5) x2
def x3:Kn:={ v2 with oh:=Hd.makeS 32 v2.oh,os:=set1 v2.os (Hd.fr 32 v2.oh) (some ⟨Hd.makeH 32 v2.oh,Ob.newX 2 0 0,[]⟩) }
def v3:Kn:=anL (bs2 1 5) x3
theorem l1:(taskK v0 1).1=256/\(taskK v0 1).2.1=0/\(taskK v0 1).2.2=v1:=by
 refine⟨by decide +kernel,by decide +kernel,?_⟩
 unfold taskK
 rw [if_neg (by decide +kernel),if_neg (by decide +kernel)]
 exact anew_free (k:=x1) (by decide +kernel) (by decide +kernel) val10
theorem l2:(taskK v1 5).1=257/\(taskK v1 5).2.1=0/\(taskK v1 5).2.2=v2:=by
 refine⟨by decide +kernel,by decide +kernel,?_⟩
 unfold taskK
 rw [if_neg (by decide +kernel),if_neg (by decide +kernel)]
 exact anew_free (k:=x2) (by decide +kernel) (by decide +kernel) val15
theorem l3:(thingK v2 2 0 0).1=256/\(thingK v2 2 0 0).2.1=0/\(thingK v2 2 0 0).2.2=v3:=by
 have h1:¬ Ob.newE 2 0 0≠0:=by unfold Ob.newE;rw [if_pos (by unfold Ob.May;omega)];decide
 have e:thingK v2 2 0 0=(Hd.makeH 32 v2.oh,0,anew x3):=by
  unfold thingK
  rw [if_neg h1,if_neg (by omega),if_neg (by omega),if_neg (by decide +kernel)]
  rfl
 rw [e]
 exact⟨by decide +kernel,rfl,anew_free (k:=x3) (by decide +kernel) (by decide +kernel) val15⟩
def aSleep:Aq:=⟨2,0,0,0,1⟩
def aTry:Aq:=⟨5,256,0,0,0⟩
def aLock:Aq:=⟨5,256,0,0,-1⟩
def aLet:Aq:=⟨6,256,0,0,0⟩
def t3:Ta:=(v3.ts 1).getD (tL 0 0)
def v4:Kn:=anL (bs2 1 5) (askS v3 1 t3 aSleep)
def t4:Ta:=(v4.ts 0).getD (tL 0 0)
theorem some_getD{α:Type}{o:Option α}{d:α}(h:o.isSome=true):o=some (o.getD d):=by cases o with | none=>cases h | some x=>rfl
theorem l4:(askK v3 aSleep).1=false/\(askK v3 aSleep).2.1=0/\(askK v3 aSleep).2.2=v4:=by
 have e:=askK_is (k:=v3) (a:=aSleep) (i:=1) (t:=t3) (by decide +kernel) (by decide +kernel) (by decide +kernel) (some_getD (by decide +kernel)) (by decide +kernel)
 rw [e]
 exact⟨by decide +kernel,by decide +kernel,anew_free (k:=askS v3 1 t3 aSleep) (by decide +kernel) (by decide +kernel) val15⟩
theorem tA_free:Ob.tA ⟨2,0,0,0,0,[],[]⟩ 256 5 0 0=(0,0,⟨2,0,0,0,256,[],[]⟩):=by
 rw [Ob.tA_ok (by unfold Ob.Bad;decide)];rfl
theorem os4:v4.os 0=some ⟨256,⟨2,0,0,0,0,[],[]⟩,[]⟩:=by rfl
theorem l5a:ask1 v4 0 t4 aTry=(true,0,0,v4.setO 0 ⟨256,⟨2,0,0,0,256,[],[]⟩,[]⟩):=by
 have h4:v4.os (Hd.placeP v4.oh aTry.ah)=some ⟨256,⟨2,0,0,0,0,[],[]⟩,[]⟩:=os4
 unfold ask1
 rw [if_neg (by decide +kernel),if_neg (by decide +kernel),if_neg (by decide +kernel),if_neg (by decide +kernel),if_neg (by decide +kernel)]
 simp only [h4]
 rw [if_neg (by decide +kernel),if_neg (by decide +kernel),if_neg (by decide +kernel),if_neg (by decide +kernel)]
 have e:Ob.tA ⟨2,0,0,0,0,[],[]⟩ t4.h aTry.wh aTry.av aTry.am=(0,0,⟨2,0,0,0,256,[],[]⟩):=tA_free
 simp only [e]
 rw [if_pos (by decide)]
 rfl
def xL(o:Int)(q:List (Int×Int)):Th:=⟨256,⟨2,0,0,0,o,[],[]⟩,q⟩
def x5:Kn:=aft1 (answer (v4.setO 0 (xL 256 [])) 0 0 0) 0 aTry
def v5:Kn:=anL (bs2 1 5) x5
theorem l5:(askK v4 aTry).1=true/\(askK v4 aTry).2.1=0/\(askK v4 aTry).2.2=v5:=by
 have e:=askK_is (k:=v4) (a:=aTry) (i:=0) (t:=t4) (by decide +kernel) (by decide +kernel) (by decide +kernel) (some_getD (by decide +kernel)) (by decide +kernel)
 have e2:askS v4 0 t4 aTry=x5:=askS_yes l5a (by decide +kernel)
 rw [e,l5a,e2]
 exact⟨rfl,rfl,anew_free (k:=x5) (by decide +kernel) (by decide +kernel) val15⟩
def x6:Kn:=slice1 { v5 with now:=(v5.now+1) % 4294967296 }
def y6:Kn:=anL (bs2 1 5) x6
def z6:Kn:=answer (downs y6) 1 0 0
def v6:Kn:=anL (bs2 1 5) z6
theorem l6:tickK v5=v6:=by
 have e1:anew x6=y6:=anew_free (k:=x6) (by decide +kernel) (by decide +kernel) val15
 have e2:dueT y6=[1]:=by decide +kernel
 have e3:anew z6=v6:=anew_free (k:=z6) (by decide +kernel) (by decide +kernel) val15
 have e4:overs (downs y6) [1]=v6:=by
  rw [←e3]
  show anew _=anew z6
  rfl
 have e5:v6.al=[]:=by decide +kernel
 rw [tick_eq v5 y6 e1.symm v6 (by rw [e2,e4]),e5]
 show { v6 with al:=Tm.tickL v6.al }=v6
 rw [e5]
 exact congrArg (fun a=>({ v6 with al:=a }:Kn)) e5.symm
def t6:Ta:=(v6.ts 1).getD (tL 0 0)
theorem tA_full:Ob.tA ⟨2,0,0,0,256,[],[]⟩ 257 5 0 0=(0,7,⟨2,0,0,0,256,[],[]⟩):=by
 rw [Ob.tA_ok (by unfold Ob.Bad;decide)];rfl
theorem no_circ:¬ Hr.Circ (whom v6) 1 (owner v6 0):=by
 have e:whom v6=ws2 (-1):=by decide +kernel
 have e2:owner v6 0=0:=by decide +kernel
 rw [e,e2]
 rintro ⟨_,_,_,k,hk,h⟩
 have:∀ k,k < (ws2 (-1)).length->Hr.ch (ws2 (-1)) 0 k≠1:=by decide +kernel
 exact this k hk h
def x7:Kn:=sleeps v6 1 t6 0 aLock
def v7:Kn:=anL (bs2 5 5) x7
theorem l7a:ask1 v6 1 t6 aLock=(false,0,0,x7):=by
 have h4:v6.os (Hd.placeP v6.oh aLock.ah)=some (xL 256 []):=by rfl
 unfold ask1
 rw [if_neg (by decide +kernel),if_neg (by decide +kernel),if_neg (by decide +kernel),if_neg (by decide +kernel),if_neg (by decide +kernel)]
 simp only [h4]
 rw [if_neg (by decide +kernel),if_neg (by decide +kernel),if_neg (by decide +kernel),if_neg (by decide +kernel)]
 have e:Ob.tA (xL 256 []).x t6.h aLock.wh aLock.av aLock.am=(0,7,⟨2,0,0,0,256,[],[]⟩):=tA_full
 simp only [e]
 rw [if_neg (by decide),if_neg (by decide +kernel),if_neg (fun c=>no_circ c.2)]
 rfl
theorem l7:(askK v6 aLock).1=false/\(askK v6 aLock).2.1=0/\(askK v6 aLock).2.2=v7:=by
 have e:=askK_is (k:=v6) (a:=aLock) (i:=1) (t:=t6) (by decide +kernel) (by decide +kernel) (by decide +kernel) (some_getD (by decide +kernel)) (by decide +kernel)
 have e2:askS v6 1 t6 aLock=x7:=by rw [askS_wait (by rw [l7a]),l7a]
 rw [e,l7a,e2]
 exact⟨rfl,rfl,anew_lent (k:=x7) (by decide +kernel) (by decide +kernel)⟩
def t7:Ta:=(v7.ts 0).getD (tL 0 0)
theorem tA_let:Ob.tA ⟨2,0,0,0,256,[],[]⟩ 256 6 0 0=(0,0,⟨2,0,0,0,0,[],[]⟩):=by
 rw [Ob.tA_ok (by unfold Ob.Bad;decide)];rfl
theorem tA_next:Ob.tA ⟨2,0,0,0,0,[],[]⟩ 257 5 0 0=(0,0,⟨2,0,0,0,257,[],[]⟩):=by
 rw [Ob.tA_ok (by unfold Ob.Bad;decide)];rfl
def x8:Kn:=answer (v7.setO 0 (xL 0 [(1,5)])) 0 0 0
def y8:Kn:=answer (x8.setO 0 (xL 257 [(1,5)])) 1 0 0
def v8:Kn:=anL (bs2 1 5) y8
theorem l8a:ask1 v7 0 t7 aLet=(true,0,0,v7.setO 0 (xL 0 [(1,5)])):=by
 have h4:v7.os (Hd.placeP v7.oh aLet.ah)=some (xL 256 [(1,5)]):=by rfl
 unfold ask1
 rw [if_neg (by decide +kernel),if_neg (by decide +kernel),if_neg (by decide +kernel),if_neg (by decide +kernel),if_neg (by decide +kernel)]
 simp only [h4]
 rw [if_neg (by decide +kernel),if_neg (by decide +kernel),if_neg (by decide +kernel),if_neg (by decide +kernel)]
 have e:Ob.tA (xL 256 [(1,5)]).x t7.h aLet.wh aLet.av aLet.am=(0,0,⟨2,0,0,0,0,[],[]⟩):=tA_let
 simp only [e]
 rw [if_pos (by decide)]
 rfl
theorem l8b:aft1 x8 0 aLet=y8:=by
 have h8:x8.os 0=some (xL 0 [(1,5)]):=by rfl
 have h4:x8.os (Hd.placeP x8.oh aLet.ah)=some (xL 0 [(1,5)]):=by rfl
 have hp:Hd.placeP x8.oh aLet.ah=0:=by decide +kernel
 have ht:tries x8 (xL 0 [(1,5)]) 1=(0,0,⟨2,0,0,0,257,[],[]⟩):=tA_next
 unfold aft1
 rw [if_pos (by decide +kernel),h4]
 simp only
 rw [if_pos (by decide +kernel),hp]
 unfold serve
 rw [h8]
 show serveN 1 x8 0=y8
 have hf:(Wt.keys (xL 0 [(1,5)]).q).find? (okB x8 (xL 0 [(1,5)]))=some 1:=by
  show [(1:Int)].find? (okB x8 (xL 0 [(1,5)]))=some 1
  rw [List.find?_cons_of_pos]
  unfold okB;rw [ht];rfl
 unfold serveN
 rw [h8]
 simp only
 rw [hf]
 simp only
 rw [ht]
 rfl
theorem l8:(askK v7 aLet).1=true/\(askK v7 aLet).2.1=0/\(askK v7 aLet).2.2=v8:=by
 have e:=askK_is (k:=v7) (a:=aLet) (i:=0) (t:=t7) (by decide +kernel) (by decide +kernel) (by decide +kernel) (some_getD (by decide +kernel)) (by decide +kernel)
 have e2:askS v7 0 t7 aLet=y8:=(askS_yes l8a (by decide +kernel)).trans l8b
 rw [e,l8a,e2]
 exact⟨rfl,rfl,anew_free (k:=y8) (by decide +kernel) (by decide +kernel) val15⟩
theorem r3:runs v3=257:=by decide +kernel
theorem r4:runs v4=256:=by decide +kernel
theorem r6:runs v6=257:=by decide +kernel
theorem r7:runs v7=256:=by decide +kernel
theorem r8:runs v8=257:=by decide +kernel
theorem n7:(tasksL v7).length=2/\(tasksL v7)[0]?.map (fun t=>(t.rank,t.base))=some (5,1):=by decide +kernel
theorem n6:∀ i,i < 16->((v5.ts i).getD (tL 0 0)).ran<=1000/\0<=((v5.ts i).getD (tL 0 0)).ran/\((v5.ts i).getD (tL 0 0)).ans<=1000:=by decide +kernel
end
end Go.Proofs.YtbbdndfibjdcfaaGreat
namespace Go.Proofs.YtbbdndfibjdcfaaGreat
open Go Go.RowKit
def Kr(o0:Nat->Nat)(w0:World)(p n:Nat)(w:World)(k:Kn):Prop:=∃ G,(G.kp=p/\G.an<=n)/\Shown G/\Fin k/\St o0 w0 G w k
section
variable {o0:Nat->Nat} {w0 w w':World} {p n:Nat} {k:Kn}
theorem Kr.below(h:Kr o0 w0 p n w k)(hb:Below w.heap.size w w'):Kr o0 w0 p n w' k:=by
 obtain⟨G,hp,hs,hf,h⟩:=h
 exact⟨G,hp,hs,hf,h.below hb⟩
theorem Kr.fin(h:Kr o0 w0 p n w k):Fin k:=by
 obtain⟨G,hp,hs,hf,h⟩:=h
 exact hf
theorem Kr.old(h:Kr (fun _=>0) w0 p n w k):Below w0.heap.size w0 w:=by
 obtain⟨G,hp,hs,hf,own,h,x⟩:=h
 exact⟨x.os,x.tape,x.output,x.size,fun b hb=>x.out b hb rfl⟩
theorem made_any(sl now:Int)(h:1<=sl/\sl<=1000)(hnow:0<=now/\now < 4294967296)(w:World):Calls Tryz.prog 9 #[.agg #[.int .i64 sl,.int .u32 now]] w fun e w'=>∃ p,e=.returned (.tuple #[.pointer (some ⟨p,0,none⟩),.int .i64 0])/\Kr (fun _=>0) w p 0 w' (new0 sl now) :=
 (new_yes sl now h hnow w).mono fun e w' ⟨G,he,hs,hS⟩=>⟨G.kp,he,G,⟨rfl,by rw [hs.2];omega⟩,hs.1,Fin.new _ _,hS⟩
theorem Kr.task(h:Kr o0 w0 p n w k)(r:Int):Calls Tryz.prog 23 #[.pointer (some ⟨p,0,none⟩),.int .i64 r] w fun e w'=>e=.returned (.tuple #[.int .u32 ((taskK k r).1:Nat),.int .i64 (taskK k r).2.1])/\Kr o0 w0 p n w' (taskK k r).2.2:=by
 obtain⟨G,⟨rfl,ha⟩,hs,hf,h⟩:=h
 exact(task_any h hf r).mono fun e w' ⟨he,G',h1,h2,h3⟩=>⟨he,G',⟨h1.1,by rw [h1.2];exact ha⟩,h2 hs,hf.taskK r,h3⟩
theorem Kr.thing(h:Kr o0 w0 p n w k)(kd a b:Int)(ha:0<=a/\a<=4294967295)(hb:0<=b/\b<=4294967295):Calls Tryz.prog 32 #[.pointer (some ⟨p,0,none⟩),.agg #[.int .u8 kd,.int .u32 a,.int .u32 b]] w fun e w'=>e=.returned (.tuple #[.int .u32 ((thingK k kd a b).1:Nat),.int .i64 (thingK k kd a b).2.1])/\Kr o0 w0 p n w' (thingK k kd a b).2.2:=by
 obtain⟨G,⟨rfl,hn⟩,hs,hf,h⟩:=h
 by_cases hE:Ob.May kd a b/\mayE k kd a=0
 ·by_cases hM:Hd.makeE 32 k.oh=0
  ·exact(thing_yes h hs hf kd a b ha hb hE.1 hE.2 hM).mono fun e w' ⟨he,G',h1,h2,h3⟩=>⟨he,G',⟨h1.1,by rw [h1.2];exact hn⟩,h2,hf.thingK _ _ _,h3⟩
  ·exact(thing_full h hs hf kd a b ha hb hE.1 hE.2 hM).mono fun e w' ⟨he,h1,h2⟩=>⟨he,G,⟨rfl,hn⟩,hs,hf.thingK _ _ _,by rw [h1];exact h2⟩
 ·exact(thing_no h hs hf kd a b ha hb hE).mono fun e w' ⟨he,h1,h2⟩=>⟨he,G,⟨rfl,hn⟩,hs,hf.thingK _ _ _,by rw [h1];exact h.below h2⟩
theorem Kr.ask(h:Kr o0 w0 p n w k)(hn:n<=100000)(a:Aq)(hw8:W8 a.wh)(hah:a.ah<=4294967295)(hav:a.av < 4294967296)(ham:a.am < 4294967296):Calls Tryz.prog 33 #[.pointer (some ⟨p,0,none⟩),aqV a] w fun e w'=>e=.returned (.tuple #[.bool (askK k a).1,.int .i64 (askK k a).2.1])/\Kr o0 w0 p (n+1) w' (askK k a).2.2:=by
 obtain⟨G,⟨rfl,han⟩,hs,hf,h⟩:=h
 exact(ask_any h hs hf a hw8 hah hav ham (by omega)).mono fun e w' ⟨he,G',h1,h2⟩=>⟨he,G',⟨h1.kp,by have:=h1.an;omega⟩,h1.sh hs,hf.askK a,h2⟩
theorem Kr.tick(h:Kr o0 w0 p n w k)(hran:∀ i t,k.ts i=some t->0<=t.ran/\t.ran<=1000000000):Calls Tryz.prog 14 #[.pointer (some ⟨p,0,none⟩)] w fun e w'=>e=.returned (.int .i64 0)/\Kr o0 w0 p n w' (tickK k):=by
 obtain⟨G,hp,hs,hf,h⟩:=h
 obtain⟨rfl,han⟩:=hp
 exact(tick_any h hs hf hran).mono fun e w' ⟨he,h2⟩=>⟨he,G,⟨rfl,han⟩,hs,hf.tickK,h2⟩
theorem Kr.now(h:Kr o0 w0 p n w k):Calls Tryz.prog 24 #[.pointer (some ⟨p,0,none⟩)] w fun e w'=>e=.returned (.int .u32 k.now)/\Below w.heap.size w w':=by
 obtain⟨G,⟨rfl,han⟩,hs,hf,h⟩:=h
 exact(now_any h).mono fun e w' ⟨he,h2⟩=>⟨he,h2 ▸ Below.refl _ _⟩
theorem Kr.runs(h:Kr o0 w0 p n w k):Calls Tryz.prog 22 #[.pointer (some ⟨p,0,none⟩)] w fun e w'=>e=.returned (.int .u32 (runs k:Nat))/\Below w.heap.size w w':=by
 obtain⟨G,⟨rfl,han⟩,hs,hf,h⟩:=h
 exact(runs_any h hf).mono fun e w' ⟨he,_,h2⟩=>⟨he,h2⟩
theorem Kr.tasks(h:Kr o0 w0 p n w k):Calls Tryz.prog 13 #[.pointer (some ⟨p,0,none⟩)] w fun e w'=>∃ v,e=.returned v/\w'.ownsRow w.heap.size 48 14 v (tasksL k).length ((tasksL k).flatMap sTC)/\Below w.heap.size w w':=by
 obtain⟨G,⟨rfl,han⟩,hs,hf,h⟩:=h
 exact tasks_any h
theorem runs_nil:Calls Tryz.prog 22 #[.pointer none] w fun e w'=>e=.returned (.int .u32 0)/\w=w':=by
 go_enter Tryz.func22,Tryz.ntmps22
 go_wp2_with (go_at_call 41;refine there_nil.mono ?_;rintro e wq ⟨rfl,rfl⟩)
 go_ret
 exact⟨rfl,rfl⟩
theorem tick_nil:Calls Tryz.prog 14 #[.pointer none] w fun e w'=>e=.returned (.int .i64 2)/\w=w':=by
 go_enter Tryz.func14,Tryz.ntmps14
 go_wp2_with (go_at_call 41;refine there_nil.mono ?_;rintro e wq ⟨rfl,rfl⟩)
 go_ret
 exact⟨rfl,rfl⟩
end
end Go.Proofs.YtbbdndfibjdcfaaGreat
namespace Go.Proofs.YtbbdndfibjdcfaaGreat
open Go Go.RowKit
section
variable {o0:Nat->Nat} {w0 w w':World} {p n:Nat} {k:Kn}
theorem lv0(w:World):Calls Tryz.prog 9 #[.agg #[.int .i64 2,.int .u32 0]] w fun e w'=>∃ p,e=.returned (.tuple #[.pointer (some ⟨p,0,none⟩),.int .i64 0])/\Kr (fun _=>0) w p 0 w' v0:=made_any 2 0 (by omega) (by omega) w
theorem lv1(h:Kr o0 w0 p 0 w v0):Calls Tryz.prog 23 #[.pointer (some ⟨p,0,none⟩),.int .i64 1] w fun e w'=>e=.returned (.tuple #[.int .u32 256,.int .i64 0])/\Kr o0 w0 p 0 w' v1:=by
 have:=h.task 1
 rw [l1.1,l1.2.1,l1.2.2] at this
 exact this
theorem lv2(h:Kr o0 w0 p 0 w v1):Calls Tryz.prog 23 #[.pointer (some ⟨p,0,none⟩),.int .i64 5] w fun e w'=>e=.returned (.tuple #[.int .u32 257,.int .i64 0])/\Kr o0 w0 p 0 w' v2:=by
 have:=h.task 5
 rw [l2.1,l2.2.1,l2.2.2] at this
 exact this
theorem lv3(h:Kr o0 w0 p 0 w v2):Calls Tryz.prog 32 #[.pointer (some ⟨p,0,none⟩),.agg #[.int .u8 2,.int .u32 0,.int .u32 0]] w fun e w'=>e=.returned (.tuple #[.int .u32 256,.int .i64 0])/\Kr o0 w0 p 0 w' v3:=by
 have:=h.thing 2 0 0 (by omega) (by omega)
 rw [l3.1,l3.2.1,l3.2.2] at this
 exact this
theorem lv4(h:Kr o0 w0 p 0 w v3):Calls Tryz.prog 33 #[.pointer (some ⟨p,0,none⟩),.agg #[.int .u8 2,.int .u32 0,.int .u32 0,.int .u32 0,.int .i64 1]] w fun e w'=>e=.returned (.tuple #[.bool false,.int .i64 0])/\Kr o0 w0 p 1 w' v4:=by
 have:=h.ask (by omega) aSleep (by unfold W8;decide) (by decide) (by decide) (by decide)
 rw [l4.1,l4.2.1,l4.2.2] at this
 exact this
theorem lv5(h:Kr o0 w0 p 1 w v4):Calls Tryz.prog 33 #[.pointer (some ⟨p,0,none⟩),.agg #[.int .u8 5,.int .u32 256,.int .u32 0,.int .u32 0,.int .i64 0]] w fun e w'=>e=.returned (.tuple #[.bool true,.int .i64 0])/\Kr o0 w0 p 2 w' v5:=by
 have:=h.ask (by omega) aTry (by unfold W8;decide) (by decide) (by decide) (by decide)
 rw [l5.1,l5.2.1,l5.2.2] at this
 exact this
theorem lv6(h:Kr o0 w0 p 2 w v5):Calls Tryz.prog 14 #[.pointer (some ⟨p,0,none⟩)] w fun e w'=>e=.returned (.int .i64 0)/\Kr o0 w0 p 2 w' v6:=by
 have:=h.tick fun i t ht=>by
  have:=n6 i (h.fin.core.hT i t ht).1
  rw [ht] at this
  have:t.ran<=1000/\0<=t.ran/\t.ans<=1000:=this
  omega
 rw [l6] at this
 exact this
theorem lv7(h:Kr o0 w0 p 2 w v6):Calls Tryz.prog 33 #[.pointer (some ⟨p,0,none⟩),.agg #[.int .u8 5,.int .u32 256,.int .u32 0,.int .u32 0,.int .i64 (-1)]] w fun e w'=>e=.returned (.tuple #[.bool false,.int .i64 0])/\Kr o0 w0 p 3 w' v7:=by
 have:=h.ask (by omega) aLock (by unfold W8;decide) (by decide) (by decide) (by decide)
 rw [l7.1,l7.2.1,l7.2.2] at this
 exact this
theorem lv8(h:Kr o0 w0 p 3 w v7):Calls Tryz.prog 33 #[.pointer (some ⟨p,0,none⟩),.agg #[.int .u8 6,.int .u32 256,.int .u32 0,.int .u32 0,.int .i64 0]] w fun e w'=>e=.returned (.tuple #[.bool true,.int .i64 0])/\Kr o0 w0 p 4 w' v8:=by
 have:=h.ask (by omega) aLet (by unfold W8;decide) (by decide) (by decide) (by decide)
 rw [l8.1,l8.2.1,l8.2.2] at this
 exact this
theorem lvr{z:Nat}(h:Kr o0 w0 p n w k)(hr:runs k=z):Calls Tryz.prog 22 #[.pointer (some ⟨p,0,none⟩)] w fun e w'=>e=.returned (.int .u32 (z:Nat))/\Kr o0 w0 p n w' k:=by
 have:=h.runs
 rw [hr] at this
 exact this.mono fun e w' ⟨he,hb⟩=>⟨he,h.below hb⟩
theorem lvt(h:Kr o0 w0 p n w v7):Calls Tryz.prog 13 #[.pointer (some ⟨p,0,none⟩)] w fun e w'=>∃ g c,e=.returned (.slice (some ⟨g,0,none⟩) 2 c)/\Kr o0 w0 p n w' v7/\w'.cell? ⟨g,3,none⟩=some (.int .i64 1)/\w'.cell? ⟨g,4,none⟩=some (.int .i64 5):=by
 refine h.tasks.mono fun e w' ⟨v,he,hr,hb⟩=>?_
 obtain⟨h1,h2⟩:=n7
 rw [h1] at hr
 obtain⟨sp,c,rfl,hg,_⟩:=own_form hr
 obtain⟨g,rfl⟩:=hg (by omega)
 cases hl:tasksL v7 with
 | nil=>rw [hl] at h1;cases h1
 | cons a r =>
  rw [hl] at h2 hr
  have h3:(a.rank,a.base)=(5,1):=by simpa using h2
  obtain⟨h4,h5⟩:=Prod.mk.inj h3
  refine⟨g,c,he,h.below hb,?_,?_⟩
  ·rw [hr.cellAt 3 (by omega)]
   show some (Value.int .i64 a.base)=_
   rw [h5]
  ·rw [hr.cellAt 4 (by omega)]
   show some (Value.int .i64 a.rank)=_
   rw [h4]
theorem lives_any(w:World):Calls Tryz.prog 10 #[] w fun e w'=>e=.returned (.bool true)/\Below w.heap.size w w':=by
 go_enter Tryz.func10,Tryz.ntmps10
 go_wp2_with (first
  |(go_at_call 22;have _:=Kz.out;refine runs_nil.mono ?_;rintro e wz ⟨rfl,rfl⟩)
  |(go_at_call 14;have _:=Ky.out;refine tick_nil.mono ?_;rintro e wz ⟨rfl,rfl⟩;have Kz:Hid _:=Ky;clear Ky)
  |(go_at_call 22;refine(lvr Kk.out r8).mono ?_;rintro e wz ⟨rfl,hk⟩;have Ky:Hid (Kr (fun _=>0) w p 4 wz v8):=hk;clear hk Kk)
  |(go_at_call 33;refine(lv8 Kj.out).mono ?_;rintro e wk ⟨rfl,hk⟩;have Kk:Hid (Kr (fun _=>0) w p 4 wk v8):=hk;clear hk Kj)
  |(go_at_call 13;refine(lvt Ki.out).mono ?_;rintro e wj ⟨tg,tc,rfl,hk,c3,c4⟩;have Kj:Hid (Kr (fun _=>0) w p 3 wj v7):=hk;clear hk Ki)
  |(go_at_call 22;refine(lvr Kh.out r7).mono ?_;rintro e wi ⟨rfl,hk⟩;have Ki:Hid (Kr (fun _=>0) w p 3 wi v7):=hk;clear hk Kh)
  |(go_at_call 33;refine(lv7 Kg.out).mono ?_;rintro e wh ⟨rfl,hk⟩;have Kh:Hid (Kr (fun _=>0) w p 3 wh v7):=hk;clear hk Kg)
  |(go_at_call 22;refine(lvr Kf.out r6).mono ?_;rintro e wg ⟨rfl,hk⟩;have Kg:Hid (Kr (fun _=>0) w p 2 wg v6):=hk;clear hk Kf)
  |(go_at_call 14;refine(lv6 Ke.out).mono ?_;rintro e wf ⟨rfl,hk⟩;have Kf:Hid (Kr (fun _=>0) w p 2 wf v6):=hk;clear hk Ke)
  |(go_at_call 33;refine(lv5 Kd.out).mono ?_;rintro e we ⟨rfl,hk⟩;have Ke:Hid (Kr (fun _=>0) w p 2 we v5):=hk;clear hk Kd)
  |(go_at_call 22;refine(lvr Kc.out r4).mono ?_;rintro e wd ⟨rfl,hk⟩;have Kd:Hid (Kr (fun _=>0) w p 1 wd v4):=hk;clear hk Kc)
  |(go_at_call 33;refine(lv4 Kb.out).mono ?_;rintro e wc ⟨rfl,hk⟩;have Kc:Hid (Kr (fun _=>0) w p 1 wc v4):=hk;clear hk Kb)
  |(go_at_call 22;refine(lvr Ka.out r3).mono ?_;rintro e wb ⟨rfl,hk⟩;have Kb:Hid (Kr (fun _=>0) w p 0 wb v3):=hk;clear hk Ka)
  |(go_at_call 32;refine(lv3 K2.out).mono ?_;rintro e wa ⟨rfl,hk⟩;have Ka:Hid (Kr (fun _=>0) w p 0 wa v3):=hk;clear hk K2)
  |(go_at_call 23;refine(lv2 K1.out).mono ?_;rintro e w2 ⟨rfl,hk⟩;have K2:Hid (Kr (fun _=>0) w p 0 w2 v2):=hk;clear hk K1)
  |(go_at_call 23;refine(lv1 K0.out).mono ?_;rintro e w1 ⟨rfl,hk⟩;have K1:Hid (Kr (fun _=>0) w p 0 w1 v1):=hk;clear hk K0)
  |(go_at_call 9;refine(lv0 w).mono ?_;rintro e w0 ⟨p,rfl,hk⟩;have K0:Hid (Kr (fun _=>0) w p 0 w0 v0):=hk;clear hk))
 go_ret
 exact⟨rfl,Kz.out.old⟩
end
def Krow(w0:World)(p n:Nat)(w:World)(k:Kn)(v:Value)(m:Nat)(zs:List Value):Prop:=∃ own,Kr own w p n w k/\Ext (fun _=>0) own w0 w/\w.ownsRow w0.heap.size 22 1 v m zs/\∀ g,v.ownBlock=some g->own g=0
theorem Krow.start{w0 w:World}{p n:Nat}{k:Kn}(h:Kr (fun _=>0) w0 p n w k):Krow w0 p n w k (.slice none 0 0) 0 []:=by
 obtain⟨G,hp,hs,hf,own,hm,x⟩:=h
 exact⟨own,⟨G,hp,hs,hf,own,hm,Ext.refl _ _⟩,x,World.ownsRow_nil _ _ _ _,fun g hg=>by cases hg⟩
theorem Krow.old{w0 w:World}{p n:Nat}{k:Kn}{v:Value}{m:Nat}{zs:List Value}(h:Krow w0 p n w k v m zs):Below w0.heap.size w0 w:=by
 obtain⟨own,_,x,_,_⟩:=h
 exact⟨x.os,x.tape,x.output,x.size,fun b hb=>x.out b hb rfl⟩
theorem Krow.below{w0 w w':World}{p n:Nat}{k:Kn}{v:Value}{m:Nat}{zs:List Value}(h:Krow w0 p n w k v m zs)(hb:Below w.heap.size w w'):Krow w0 p n w' k v m zs:=by
 obtain⟨own,hk,x,hr,hz⟩:=h
 obtain⟨G,hp,hs,hf,own2,hm,y⟩:=hk.below hb
 exact⟨own2,⟨G,hp,hs,hf,own2,hm,Ext.refl _ _⟩,x.trans y,owns_of hr fun g hg=>y.out g (hr.lt g hg).2 (hz g hg),fun g hg=>y.zero g (hr.lt g hg).2 (hz g hg)⟩
theorem Krow.next{w0 w:World}{p n n':Nat}{k k':Kn}{v:Value}{m:Nat}{zs:List Value}(h:Krow w0 p n w k v m zs){f:Nat}{ar:Array Value}{R:Value}
  (hc:∀ own,Kr own w p n w k->Calls Tryz.prog f ar w fun e w'=>e=.returned R/\Kr own w p n' w' k'):Calls Tryz.prog f ar w fun e w'=>e=.returned R/\Krow w0 p n' w' k' v m zs:=by
 obtain⟨own,hk,x,hr,hz⟩:=h
 refine(hc own hk).mono fun e w' ⟨he,G,hp,hs,hf,own2,hm,y⟩=>⟨he,own2,⟨G,hp,hs,hf,own2,hm,Ext.refl _ _⟩,x.trans y,owns_of hr fun g hg=>y.out g (hr.lt g hg).2 (hz g hg),fun g hg=>y.zero g (hr.lt g hg).2 (hz g hg)⟩
theorem Krow.push{w0 w w1:World}{p n:Nat}{k:Kn}{v v':Value}{m:Nat}{zs:List Value}{x:Value}{o:Obj}(h:Krow w0 p n w k v m zs)
  (hown:w1.ownsRow w0.heap.size 22 1 v' (m+1) (zs ++ [x])) (hg:(w.alloc o).grownBy w1 v.ownBlock) (hat:v'.ownBlock=v.ownBlock∨v'.ownBlock=some (w.alloc o).heap.size):Krow w0 p n w1 k v' (m+1) (zs ++ [x]):=by
 obtain⟨own,⟨G,hp,hs,hf,own2,hm,y⟩,ex,hr,hz⟩:=h
 have hz2:∀ g,v.ownBlock=some g->own2 g=0:=fun g hg=>y.zero g (hr.lt g hg).2 (hz g hg)
 have ha:=alloc_below w o
 have hs1:w.heap.size<=w1.heap.size:=Nat.le_trans ha.size hg.size
 have hoff:Off own2 0 w w1:=⟨hg.os.trans ha.os,hg.tape.trans ha.tape,hg.output.trans ha.output,hs1,fun b hb hne=>(hg.block b (Nat.lt_of_lt_of_le hb ha.size) fun e=>hne (hz2 b e.symm)).trans (ha.block b hb)⟩
 have hw0:∀ g,v.ownBlock=some g->w0.heap.size<=g:=fun g hg=>(hr.lt g hg).1
 refine⟨ext own2 G w w1 0,⟨G,hp,hs,hf,_,hm.off hoff,Ext.refl _ _⟩,?_,hown,fun g hgg=>?_⟩
 ·have e:=ex.trans y
  refine⟨hoff.os.trans e.os,hoff.tape.trans e.tape,hoff.output.trans e.output,Nat.le_trans e.size hs1,fun b hb h0=>ext_0 (Nat.lt_of_lt_of_le hb e.size) (e.zero b hb h0),fun b hb h0=>?_⟩
  refine((hg.block b (Nat.lt_of_lt_of_le hb (Nat.le_trans e.size ha.size)) fun e2=>?_).trans (ha.block b (Nat.lt_of_lt_of_le hb e.size))).trans (e.out b hb h0)
  have:=hw0 b e2.symm
  omega
 ·rcases hat with e | e
  ·rw [e] at hgg
   exact ext_0 (hr.lt g hgg).2 (hz2 g hgg)
  ·rw [e] at hgg
   obtain rfl:_=g:=by simpa using hgg
   exact ext_00 (Nat.le_succ _)
end Go.Proofs.YtbbdndfibjdcfaaGreat
namespace Go.Proofs.YtbbdndfibjdcfaaGreat
open Go Go.RowKit
def hsL(m:Nat):List Value:=(List.range m).map fun(j:Nat)=>Value.int .u32 (256+(j:Int))
theorem hsL_succ(m:Nat):hsL (m+1)=hsL m ++ [Value.int .u32 (256+(m:Int))]:=by unfold hsL;rw [List.range_succ,List.map_append];rfl
theorem hsL_at{m j:Nat}(h:j < m):(hsL m)[j]?=some (Value.int .u32 (256+(j:Int))):=by unfold hsL;rw [List.getElem?_map,List.getElem?_range h];rfl
section
variable {o0:Nat->Nat} {w0 w w':World} {p n:Nat} {k:Kn}
theorem Krow.task{v:Value}{m:Nat}{zs:List Value}{sl:Nat}{r now:Int}(h:Krow w0 p n w k v m zs)(hs:Slc k sl m r now 0 0)(hm:m < 16)(hr:0<=r/\r<=31):Calls Tryz.prog 23 #[.pointer (some ⟨p,0,none⟩),.int .i64 r] w fun e w'=>e=.returned (.tuple #[.int .u32 (256+(m:Int)),.int .i64 0])/\Krow w0 p n w' (taskK k r).2.2 v m zs:=by
 obtain⟨a,b,_⟩:=hs.born hm hr
 exact h.next fun own hk=>by
  have:=hk.task r
  rw [a,b,show((256+m:Nat):Int)=256+(m:Int) by omega] at this
  exact this
theorem Krow.tick{v:Value}{m:Nat}{zs:List Value}(h:Krow w0 p n w k v m zs)(hran:∀ i t,k.ts i=some t->0<=t.ran/\t.ran<=1000000000):Calls Tryz.prog 14 #[.pointer (some ⟨p,0,none⟩)] w fun e w'=>e=.returned (.int .i64 0)/\Krow w0 p n w' (tickK k) v m zs :=
 h.next fun own hk=>hk.tick hran
theorem Slc.ran{sl m:Nat}{r now:Int}{q v:Nat}(h:Slc k sl m r now q v)(hv:v < sl)(hs:sl<=1000):∀ i t,k.ts i=some t->0<=t.ran/\t.ran<=1000000000:=fun i t ht=>by
 obtain⟨c,_⟩:=h.quiet ht
 rw [h.ts i c] at ht
 obtain rfl:_=t:=by simpa using ht
 simp only
 split <;> omega
theorem slices_law(a b c d:Int)(ha:0<=a/\a<=255)(hb:0<=b/\b<=255)(hc:0<=c/\c<=255)(hd:0<=d/\d<=65535)(w:World) :
  Calls Tryz.prog 7 #[.agg #[.int .u8 a,.int .u8 b,.int .u8 c,.int .u16 d]] w fun e w'=>e=.returned (.bool true)/\Below w.heap.size w w':=by
 obtain⟨i0,hi,hz0,hz1,hz2⟩:=info_parts' Hd.infoW
 obtain⟨a,rfl⟩:∃ x:Nat,a=(x:Int):=⟨a.toNat,by omega⟩
 obtain⟨b,rfl⟩:∃ x:Nat,b=(x:Int):=⟨b.toNat,by omega⟩
 obtain⟨c,rfl⟩:∃ x:Nat,c=(x:Int):=⟨c.toNat,by omega⟩
 obtain⟨d,rfl⟩:∃ x:Nat,d=(x:Int):=⟨d.toNat,by omega⟩
 obtain⟨w0,hw0⟩:∃ w0,w.alloc (.cells #[.int .u8 (a:Int),.int .u8 (b:Int),.int .u8 (c:Int),.int .u16 (d:Int)] 68)=w0:=⟨_,rfl⟩
 have hb0:Below w.heap.size w w0:=by rw [←hw0];exact alloc_below _ _
 have hat:w0.heap[w.heap.size]?=some (.cells #[.int .u8 (a:Int),.int .u8 (b:Int),.int .u8 (c:Int),.int .u16 (d:Int)] 68 (0,0)):=by rw [←hw0];exact alloc_at _ _
 have x0:=cell_of (i:=0) hat
 have x1:=cell_of (i:=1) hat
 have x2:=cell_of (i:=2) hat
 have x3:=cell_of (i:=3) hat
 simp only [List.getElem?_toArray,List.getElem?_cons_zero,List.getElem?_cons_succ] at x0 x1 x2 x3
 have HB0:Hid (Below w.heap.size w w0):=hb0
 clear hat hb0
 have e1:Int.tmod (a:Int) 20=((a % 20:Nat):Int):=rfl
 have e2:Int.tmod (b:Int) 16=((b % 16:Nat):Int):=rfl
 have e3:Int.tmod (c:Int) 32=((c % 32:Nat):Int):=rfl
 have e4:Int.tmod (d:Int) 500=((d % 500:Nat):Int):=rfl
 obtain⟨n,hn⟩:∃ n,1+a % 20=n:=⟨_,rfl⟩
 have hN:(1:Int)+((a % 20:Nat):Int)=(n:Int):=by omega
 have hn1:1<=n:=by omega
 have hn2:n<=20:=by omega
 obtain⟨m,hm⟩:∃ m,1+b % 16=m:=⟨_,rfl⟩
 have hM:(1:Int)+((b % 16:Nat):Int)=(m:Int):=by omega
 have hm1:1<=m:=by omega
 have hm2:m<=16:=by omega
 obtain⟨r,hr⟩:∃ r,c % 32=r:=⟨_,rfl⟩
 have hr2:r<=31:=by omega
 obtain⟨T,hT⟩:∃ T,d % 500=T:=⟨_,rfl⟩
 have hT2:T<=499:=by omega
 rw [hr] at e3
 rw [hT] at e4
 have HNew:Hid (Calls Tryz.prog 9 #[.agg #[.int .i64 (n:Int),.int .u32 4294967290]] w0 fun e w'=>∃ p,e=.returned (.tuple #[.pointer (some ⟨p,0,none⟩),.int .i64 0])/\Kr (fun _=>0) w0 p 0 w' (new0 (n:Int) 4294967290)):=made_any n 4294967290 (by omega) (by omega) w0
 clear hn hm hr hT
 have hla:a<=255:=by omega
 have hlb:b<=255:=by omega
 have hlc:c<=255:=by omega
 have hld:d<=65535:=by omega
 clear ha hb hc hd
 generalize a % 20=a' at *
 generalize b % 16=b' at *
 go_enter Tryz.func7,Tryz.ntmps7
 go_wp2_with (go_at_call 9;refine HNew.out.mono ?_;rintro e w1 ⟨p,rfl,hk⟩;have K1:Hid (Krow w0 p 0 w1 (new0 (n:Int) 4294967290) (.slice none 0 0) 0 (hsL 0)):=Krow.start hk;clear hk)
 have HS0:Hid (Slc (new0 (n:Int) 4294967290) n 0 (r:Int) 4294967290 0 0):=Slc.start _ ⟨by omega,by omega⟩
 clear HNew hw0 x0 x1 x2 x3
 go_loopg [11,12,13,14] m (fun g s11 s12 s13 s14 wx=>∃ (i:Nat) (k:Kn),i+g=m/\s12=.int .i64 (i:Int)/\Hid (Slc k n i (r:Int) 4294967290 0 0)/\Hid (Krow w0 p 0 wx k s11 i (hsL i)))
 case atStart=>exact⟨0,_,by omega,rfl,HS0,K1⟩
 case round =>
  clear HS0 K1
  obtain⟨i,k,hig,rfl,HS,HK⟩:=hrel
  cases gk with
  | succ g =>
   have hlt:(i:Int) < m:=by omega
   have him:i < 16:=by omega
   have HT:Hid (Slc (taskK k r).2.2 n (i+1) (r:Int) 4294967290 0 0):=(HS.out.born him ⟨by omega,by omega⟩).2.2
   have HC:Hid (∀ wx,Krow w0 p 0 wx k u11 i (hsL i)->Calls Tryz.prog 23 #[.pointer (some ⟨p,0,none⟩),.int .i64 (r:Int)] wx fun e w'=>e=.returned (.tuple #[.int .u32 (256+(i:Int)),.int .i64 0])/\Krow w0 p 0 w' (taskK k r).2.2 u11 i (hsL i)):=fun wx h=>h.task HS.out him ⟨by omega,by omega⟩
   clear HS
   go_wp2_with (first
    |(go_at_call 23;refine(HC.out _ HK.out).mono ?_;rintro e w3 ⟨rfl,hk⟩;have HROW:Hid (w3.ownsRow w0.heap.size 22 1 u11 i (hsL i)):=(by obtain⟨_,_,_,h,_⟩:=hk;exact h);have HB:Hid (w0.heap.size<=w3.heap.size):=hk.old.size;have K3:Hid (Krow w0 p 0 w3 (taskK k r).2.2 u11 i (hsL i)):=hk;clear hk)
    |(at_builtin;go_loud (refine wpList_append_own_at _ rfl (.tmp 55) (.tmp 57) 51 rfl w0.heap.size 22 i0 (.int .u32 0) 1 4 Tryz.underlying51 hi hz0 hz1 hz2 rfl (by decide) _ i (hsL i) rfl (HROW.out.alloc _) ⟨w3.heap.size,0,none⟩ 1 1 [.int .u32 (256+(i:Int))] rfl rfl (cell_one_new _ _ _) (by simp [Value.oneCell']) (by simp only [maxLen];omega) (by omega) (Nat.le_trans HB.out (alloc_below w3 _).size) ?_;intro v' w4 ho hg _ hat;have K4:Hid (Krow w0 p 0 w4 (taskK k r).2.2 v' (i+1) (hsL i ++ [.int .u32 (256+(i:Int))])):=K3.out.push ho hg hat;clear ho hg hat K3)))
   go_roundg g
   case measure=>omega
   case rel=>exact⟨i+1,_,by omega,by go_num,HT,by rw [hsL_succ];exact K4⟩
  | zero =>
   obtain rfl:m=i:=by omega
   have hlt:¬ ((m:Int) < m):=by omega
   obtain⟨g0,c0,rfl⟩:∃ g0 c0,u11=.slice (some ⟨g0,0,none⟩) m c0:=by
    obtain⟨_,_,_,h,_⟩:=HK.out
    obtain⟨sp,c,rfl,hg,_⟩:=own_form h
    obtain⟨g,rfl⟩:=hg (by omega)
    exact⟨g,c,rfl⟩
   go_wp2
   go_loopg [15] T (fun g s15 wx=>∃ j:Nat,j+g=T/\s15=.int .i64 (j:Int)/\Hid (Krow w0 p 0 wx (ticksK k j) (.slice (some ⟨g0,0,none⟩) m c0) m (hsL m)))
   case atStart=>exact⟨0,by omega,rfl,HK⟩
   case round =>
    clear HK
    obtain⟨j,hjg,rfl,HK⟩:=hrel
    cases gk with
    | zero =>
     obtain rfl:T=j:=by omega
     have hlt2:¬ ((T:Int) < T):=by omega
     go_wp2_with (go_at_call 10;refine(lives_any _).mono ?_;rintro e w4 ⟨rfl,hb⟩;have H4:Hid (Below w.heap.size w w4):=((HB0.out.trans (HK.out.old.mono HB0.out.size)).trans (hb.mono (Nat.le_trans HB0.out.size HK.out.old.size)));clear hb)
     go_ret
     exact⟨rfl,H4.out⟩
    | succ g =>
     have hlt2:(j:Int) < T:=by omega
     have HSj:=HS.out.at hn1 ⟨by omega,by omega⟩ hm1 hm2 j
     obtain⟨q,hq⟩:∃ q,j / n % m=q:=⟨_,rfl⟩
     have hqm:q < m:=by rw [←hq];exact Nat.mod_lt _ hm1
     have t1:Int.tdiv (j:Int) (n:Int)=((j / n:Nat):Int):=(Int.ofNat_tdiv j n).symm
     have t2:Int.tmod ((j / n:Nat):Int) (m:Int)=(q:Int):=by rw [←hq];exact(Int.ofNat_tmod (j / n) m).symm
     rw [hq] at HSj
     have hf:=(HSj.first ⟨by omega,by omega⟩ hm1 hqm).2.2
     have hv:=HSj.ran (Nat.mod_lt _ hn1) (by omega)
     have hnw:=HSj.nw
     have HR:Hid (∀ wx,Krow w0 p 0 wx (ticksK k j) (.slice (some ⟨g0,0,none⟩) m c0) m (hsL m)->Calls Tryz.prog 22 #[.pointer (some ⟨p,0,none⟩)] wx fun e w'=>e=.returned (.int .u32 (256+(q:Int)))/\Below wx.heap.size wx w'):=fun wx h=>by
      obtain⟨own,h,_⟩:=h
      have:=h.runs
      rw [hf,show((256+q:Nat):Int)=256+(q:Int) by omega] at this
      exact this
     have HN:Hid (∀ wx,Krow w0 p 0 wx (ticksK k j) (.slice (some ⟨g0,0,none⟩) m c0) m (hsL m)->Calls Tryz.prog 24 #[.pointer (some ⟨p,0,none⟩)] wx fun e w'=>e=.returned (.int .u32 ((4294967290+(j:Int)) % 4294967296))/\Below wx.heap.size wx w'):=fun wx h=>by
      obtain⟨own,h,_⟩:=h
      have:=h.now
      rw [hnw] at this
      exact this
     have HTk:Hid (∀ wx,Krow w0 p 0 wx (ticksK k j) (.slice (some ⟨g0,0,none⟩) m c0) m (hsL m)->Calls Tryz.prog 14 #[.pointer (some ⟨p,0,none⟩)] wx fun e w'=>e=.returned (.int .i64 0)/\Krow w0 p 0 w' (ticksK k (j+1)) (.slice (some ⟨g0,0,none⟩) m c0) m (hsL m)):=fun wx h=>h.tick hv
     have HC:Hid (∀ wx,Krow w0 p 0 wx (ticksK k j) (.slice (some ⟨g0,0,none⟩) m c0) m (hsL m)->wx.cell? ⟨g0,q,none⟩=some (.int .u32 (256+(q:Int)))):=fun wx h=>by
      obtain⟨_,_,_,h,_⟩:=h
      rw [h.cellAt q (by omega)]
      exact hsL_at hqm
     have hjn:j / n<=j:=Nat.div_le_self _ _
     have hnn:¬ ((n:Int)=0):=by omega
     have hmm:¬ ((m:Int)=0):=by omega
     clear hf hnw hv HSj hq
     generalize j / n=jn at *
     have HA:Hid (∀ g,Krow w0 p 0 (Ob.Tk.above wr g) (ticksK k j) (.slice (some ⟨g0,0,none⟩) m c0) m (hsL m)):=fun g=>HK.out.below (Ob.Tk.below_above wr g)
     have CA:∀ g,(Ob.Tk.above wr g).cell? ⟨g0,q,none⟩=some (.int .u32 (256+(q:Int))):=fun g=>HC.out _ (HA.out g)
     go_upto_region 21 with fail
     refine Ob.Tk.wp_calm_then 20 4 (by kernel_rfl) rfl (by kernel_rfl) ?_
     simp only [List.take_succ_cons,List.take_zero,List.drop_succ_cons,List.drop_zero]
     repeat (go_big_quiet_step (first
      |(go_at_call 22;exact Ob.Tk.calm_call (HR.out _ (HA.out _)))
      |(go_at_call 24;exact Ob.Tk.calm_call (HN.out _ (HA.out _)))))
     refine wpQuiet_nil ?_
     intro w2 b2
     have K2:Hid (Krow w0 p 0 w2 (ticksK k j) (.slice (some ⟨g0,0,none⟩) m c0) m (hsL m)):=HK.out.below b2
     clear b2 CA HA
     go_wp2_with (go_at_call 14;refine(HTk.out _ K2.out).mono ?_;rintro e wc ⟨rfl,hk⟩;have KC:Hid (Krow w0 p 0 wc (ticksK k (j+1)) (.slice (some ⟨g0,0,none⟩) m c0) m (hsL m)):=hk;clear hk)
     go_roundg g
     case measure=>omega
     case rel=>exact⟨j+1,by omega,by go_num,KC⟩
end
end Go.Proofs.YtbbdndfibjdcfaaGreat
namespace Go.Proofs.YtbbdndfibjdcfaaGreat
open Go Go.RowKit
open Go.ChangeShapes Go.WideShapes Go.WideElems
theorem open_sl{H:Type}{enc:TypeId×Value->H}{W:World}{base:Nat}{v:Value}{d:DataW H}{p:List MemPlace}(hval:Value.okWide Tryz.prog W .any base 68 v)(h:DataW.Trod enc Tryz.prog W 0 (fun _=>true) true 68 v d p) :
  ∃ a b c t,v=.agg #[.int .u8 a,.int .u8 b,.int .u8 c,.int .u16 t]/\(0<=a/\a<=255)/\(0<=b/\b<=255)/\(0<=c/\c<=255)/\(0<=t/\t<=65535):=by
 obtain⟨cs,rfl,hn⟩:=okWide_struct Tryz.underlying68 hval
 rw [show Tryz.prog.cellsOf 68=4 by kernel_rfl] at hn
 obtain⟨fuel,hf⟩:=h
 obtain⟨xs,m,_,_,_,hl,hel⟩:=DataW.trod_struct Tryz.underlying68 hf
 obtain⟨l⟩:=cs
 match l,hn with
 | [c0,c1,c2,c3],_ =>
  match xs,hl with
  | [x0,x1,x2,x3],_ =>
   have kB:Tryz.prog.cellsOf 66=1:=by kernel_rfl
   have k5:Tryz.prog.cellsOf 5=1:=by kernel_rfl
   have e0:DataW.trod enc Tryz.prog W 0 (fun _=>true) true m 5 (([c0,c1,c2,c3].drop 0).take (Tryz.prog.cellsOf 5))=some x0:=hel 0 _ rfl
   have e1:DataW.trod enc Tryz.prog W 0 (fun _=>true) true m 5 (([c0,c1,c2,c3].drop 1).take (Tryz.prog.cellsOf 5))=some x1:=hel 1 _ rfl
   have e2:DataW.trod enc Tryz.prog W 0 (fun _=>true) true m 5 (([c0,c1,c2,c3].drop 2).take (Tryz.prog.cellsOf 5))=some x2:=hel 2 _ rfl
   have e3:DataW.trod enc Tryz.prog W 0 (fun _=>true) true m 66 (([c0,c1,c2,c3].drop 3).take (Tryz.prog.cellsOf 66))=some x3:=hel 3 _ rfl
   rw [kB] at e3
   rw [k5] at e0 e1 e2
   obtain⟨a,q0,_,w0⟩:=DataW.trod_int Tryz.underlying5 (show DataW.trod enc Tryz.prog W 0 (fun _=>true) true m 5 [c0]=some x0 from e0)
   obtain⟨b,q1,_,w1⟩:=DataW.trod_int Tryz.underlying5 (show DataW.trod enc Tryz.prog W 0 (fun _=>true) true m 5 [c1]=some x1 from e1)
   obtain⟨c,q2,_,w2⟩:=DataW.trod_int Tryz.underlying5 (show DataW.trod enc Tryz.prog W 0 (fun _=>true) true m 5 [c2]=some x2 from e2)
   obtain⟨t,q3,_,w3⟩:=DataW.trod_int Tryz.underlying66 (show DataW.trod enc Tryz.prog W 0 (fun _=>true) true m 66 [c3]=some x3 from e3)
   simp only [List.cons.injEq,and_true] at q0 q1 q2 q3
   subst q0 q1 q2 q3
   exact⟨a,b,c,t,rfl,bounds_u8 w0,bounds_u8 w1,bounds_u8 w2,bounds_u16 w3⟩
theorem laidOut:laidOutB Tryz.prog=true:=by kernel_rfl
end Go.Proofs.YtbbdndfibjdcfaaGreat
