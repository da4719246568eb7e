/- Package kernel, proved: part KtK5. No law of the program itself. -/
import Derived.Test.YtbbdndfibjdcfaaGreatKtK4
import Derived.Test.YtbbdndfibjdcfaaGreatKtA1
set_option maxRecDepth 100000
set_option linter.all false
set_option maxHeartbeats 16000000
namespace Go.Proofs.YtbbdndfibjdcfaaGreat
open Go Go.RowKit
section
variable {o0:Nat->Nat} {w0 w w':World} {G:Geo} {k:Kn}
def Ta.asks(t:Ta)(on:Int)(a:Aq):Ta:={ t with st:=2,wh:=a.wh,ah:=a.ah,av:=a.av,am:=a.am,aw:=a.aw,on:=on }
def Ta.lt2(t:Ta)(l s:Int):Ta:={ t with left:=l,since:=s }
theorem asks_cells(G:Geo)(i:Nat)(t:Ta)(on:Int)(a:Aq)(v:Value)(hv:onP G on=v):[(1,.int .u8 2),(5,.int .u8 a.wh),(6,.int .u32 (a.ah:Nat)),(7,.int .u32 (a.av:Nat)),(8,.int .u32 (a.am:Nat)),(9,.int .i64 a.aw),(16,v)].foldl (fun(c:Array Value) (p:Nat×Value)=>c.setIfInBounds p.1 p.2) (tC G i t)=tC G i (t.asks on a):=by
 subst hv
 simp [tC,Ta.asks]
theorem onP_at(G:Geo)(o:Nat):onP G (o:Int)=.pointer (some ⟨G.xp o,0,none⟩):=by
 rw [onP_yes (by omega)]
 simp
theorem own_box(h:St o0 w0 G w k)(a:Aq):∃ own,St own (w.alloc (.cells (aqC a) 38)) G (w.alloc (.cells (aqC a) 38)) k/\Ext o0 own w0 (w.alloc (.cells (aqC a) 38))/\own w.heap.size=0/\∀ wx k',St own (w.alloc (.cells (aqC a) 38)) G wx k'->wx.cell? ⟨w.heap.size,0,none⟩=some (.int .u8 a.wh)/\wx.cell? ⟨w.heap.size,1,none⟩=some (.int .u32 (a.ah:Nat))/\wx.cell? ⟨w.heap.size,2,none⟩=some (.int .u32 (a.av:Nat))/\wx.cell? ⟨w.heap.size,3,none⟩=some (.int .u32 (a.am:Nat))/\wx.cell? ⟨w.heap.size,4,none⟩=some (.int .i64 a.aw):=by
 obtain⟨own,hA,hX,hF⟩:=h.fresh (alloc_below w (.cells (aqC a) 38))
 obtain⟨c0,c1,c2,c3,c4⟩:=asked_cells (w:=w) (a:=a) (Below.refl _ _)
 have h0:=hF _ (Nat.le_refl w.heap.size)
 exact⟨own,hA,hX,h0,fun wx k' hx=>⟨hx.cell h0 c0,hx.cell h0 c1,hx.cell h0 c2,hx.cell h0 c3,hx.cell h0 c4⟩⟩
theorem box_ne{own:Nat->Nat}{a:Aq}{wx:World}{k':Kn}(h0:own w.heap.size=0)(h:St own (w.alloc (.cells (aqC a) 38)) G wx k'){i:Nat}{t:Ta}(ht:k'.ts i=some t):G.tp i≠w.heap.size:=by
 intro e
 have al:=alloc_at w (.cells (aqC a) 38)
 have h1:=(h.out (at_lt al) h0).trans al
 have h2:=h.t ht
 rw [e,h1] at h2
 injection h2 with h3
 injection h3 with _ h4 _
 exact absurd h4 (by decide)
theorem wait0_any(h:St o0 w0 G w k){i:Nat}{t:Ta}(hr:Rn k i t)(a:Aq)(hav:a.av < 4294967296)(haw:1<=a.aw/\a.aw<=1073741824):Calls Tryz.prog 162 #[.pointer (some ⟨G.kp,0,none⟩),.pointer (some ⟨G.tp i,0,none⟩),.pointer none,aqV a] w fun e w'=>e=.returned (.tuple #[])/\St o0 w0 G w' (sleeps k i t (-1) a):=by
 obtain⟨own,hA,hX,hz0,hC⟩:=own_box h a
 have HZ0:Hid (own w.heap.size=0):=hz0
 have HX:Hid (Ext o0 own w0 (w.alloc (.cells (aqC a) 38))):=hX
 have HC:Hid (∀ wx k',St own (w.alloc (.cells (aqC a) 38)) G wx k'->wx.cell? ⟨w.heap.size,0,none⟩=some (.int .u8 a.wh)/\wx.cell? ⟨w.heap.size,1,none⟩=some (.int .u32 (a.ah:Nat))/\wx.cell? ⟨w.heap.size,2,none⟩=some (.int .u32 (a.av:Nat))/\wx.cell? ⟨w.heap.size,3,none⟩=some (.int .u32 (a.am:Nat))/\wx.cell? ⟨w.heap.size,4,none⟩=some (.int .i64 a.aw)):=hC
 have HA:Hid (St own (w.alloc (.cells (aqC a) 38)) G (w.alloc (.cells (aqC a) 38)) k):=hA
 have c6:=hA.c6
 have d14:=hA.d14 hr.ht
 have HT:Hid (k.ts i=some t):=hr.ht
 have HI:Hid (t.on=-1/\t.left=0):=hr.idle
 have HAV:Hid (a.av < 4294967296):=hav
 have HAW:Hid (1<=a.aw/\a.aw<=1073741824):=haw
 have hpos:0 < a.aw:=by omega
 have HE:Hid (sleeps k i t (-1) a=({ (Kn.setT { k with rd:=Rd.rmX k.rd (i:Int) } i (t.asks (-1) a)) with ts:=set1 ((Kn.setT { k with rd:=Rd.rmX k.rd (i:Int) } i (t.asks (-1) a)):Kn).ts i (some ((t.asks (-1) a).lt2 (a.aw) k.wc)),wc:=k.wc+1 }:Kn)):=by
  show _=_
  unfold sleeps Ta.lt2 Ta.asks Kn.setT
  simp only [set1_set1]
  rw [if_neg (by omega)]
  rw [if_neg (by omega)]
 clear h hr hA hX hC hz0
 go_enter Tryz.func162,Tryz.ntmps162
 go_wp2
 go_region_held3 (fun w'=>w'.cell? ⟨G.kp,6,none⟩=some (.pointer (some ⟨G.rp,0,none⟩))/\w'.cell? ⟨G.tp i,14,none⟩=some (.int .i64 (i:Nat))) (go_keep) (first
  |(go_at_call 69;refine(k_remove HA.out.drew _).mono ?_;rintro e w1 ⟨⟨y,rfl⟩,h1⟩;have S1:Hid (St own (w.alloc (.cells (aqC a) 38)) G w1 { k with rd:=Rd.rmX k.rd i }):=h1;have zh1c6:=h1.c6;have zh1c7:=h1.c7;have zh1d14:=h1.d14 HT.out;obtain⟨y0,y1,y2,y3,y4⟩:=HC.out _ _ h1;have q1:=h1.d1 HT.out;have q5:=h1.d5 HT.out;have q6:=h1.d6 HT.out;have q7:=h1.d7 HT.out;have q8:=h1.d8 HT.out;have q9:=h1.d9 HT.out;have q16:=h1.tc HT.out 16 rfl;have f1:=h1.tfree HT.out 1;have f5:=h1.tfree HT.out 5;have f6:=h1.tfree HT.out 6;have f7:=h1.tfree HT.out 7;have f8:=h1.tfree HT.out 8;have f9:=h1.tfree HT.out 9;have f16:=h1.tfree HT.out 16;have ne1:=box_ne HZ0.out h1 HT.out;have ne2:=Ne.symm ne1;clear h1)
  | fail)
 go_wp2
 go_region
 generalize hW2:World.drew _=W2
 have S2:Hid (St own (w.alloc (.cells (aqC a) 38)) G W2 (Kn.setT { k with rd:=Rd.rmX k.rd (i:Int) } i (t.asks (-1) a))):=by
  rw [←hW2]
  exact(S1.out.setL HT.out [(1,.int .u8 2),(5,.int .u8 a.wh),(6,.int .u32 (a.ah:Nat)),(7,.int .u32 (a.av:Nat)),(8,.int .u32 (a.am:Nat)),(9,.int .i64 a.aw),(16,.pointer none)] (t.asks (-1) a) rfl rfl (asks_cells G i t _ a _ (onP_no (by omega))) (Or.inr HAV.out)).drew
 have HT2:Hid ((Kn.setT { k with rd:=Rd.rmX k.rd (i:Int) } i (t.asks (-1) a)).ts i=some (t.asks (-1) a)):=setT_at _ _ _
 clear hW2 y0 y1 y2 y3 y4 q1 q5 q6 q7 q8 q9 q16 f1 f5 f6 f7 f8 f9 f16 ne1 ne2 S1
 have z4:=(HC.out _ _ S2.out).2.2.2.2
 have z7:=S2.out.c7
 have z14:=S2.out.d14 HT2.out
 go_wp2
 go_region_held3 (fun w'=>w'.cell? ⟨G.kp,7,none⟩=some (.pointer (some ⟨G.ep,0,none⟩))/\w'.cell? ⟨G.tp i,14,none⟩=some (.int .i64 (i:Nat))/\w'.cell? ⟨w.heap.size,4,none⟩=some (.int .i64 a.aw)) (go_keep) (first
  |(go_at_call 131;refine(k_dput S2.out.drew HT2.out (show t.left<=0 by have:=HI.out.2;omega) a.aw HAW.out).mono ?_;rintro e w3 ⟨⟨yy,rfl⟩,h3⟩;have S3:Hid (St own (w.alloc (.cells (aqC a) 38)) G w3 ({ (Kn.setT { k with rd:=Rd.rmX k.rd (i:Int) } i (t.asks (-1) a)) with ts:=set1 ((Kn.setT { k with rd:=Rd.rmX k.rd (i:Int) } i (t.asks (-1) a)):Kn).ts i (some ((t.asks (-1) a).lt2 (a.aw) k.wc)),wc:=k.wc+1 }:Kn)):=h3;have v7:=h3.c7;have v14:=h3.d14 (i:=i) (t:=(t.asks (-1) a).lt2 (a.aw) k.wc) (set1_at _ _ _);have v4:=(HC.out _ _ h3).2.2.2.2;clear h3)
  | fail)
 go_wp2
 go_end0
 refine⟨rfl,?_⟩
 rw [HE.out]
 exact S3.out.from HX.out
theorem wait1_any(h:St o0 w0 G w k){i:Nat}{t:Ta}(hr:Rn k i t)(a:Aq)(hav:a.av < 4294967296)(haw:1<=a.aw/\a.aw<=1073741824){o:Nat}{x:Th}(hx:k.os o=some x)(hq:x.q.length < 1000):Calls Tryz.prog 162 #[.pointer (some ⟨G.kp,0,none⟩),.pointer (some ⟨G.tp i,0,none⟩),.pointer (some ⟨G.xp o,0,none⟩),aqV a] w fun e w'=>e=.returned (.tuple #[])/\St o0 w0 G w' (sleeps k i t (o:Int) a):=by
 obtain⟨own,hA,hX,hz0,hC⟩:=own_box h a
 have HZ0:Hid (own w.heap.size=0):=hz0
 have HX:Hid (Ext o0 own w0 (w.alloc (.cells (aqC a) 38))):=hX
 have HC:Hid (∀ wx k',St own (w.alloc (.cells (aqC a) 38)) G wx k'->wx.cell? ⟨w.heap.size,0,none⟩=some (.int .u8 a.wh)/\wx.cell? ⟨w.heap.size,1,none⟩=some (.int .u32 (a.ah:Nat))/\wx.cell? ⟨w.heap.size,2,none⟩=some (.int .u32 (a.av:Nat))/\wx.cell? ⟨w.heap.size,3,none⟩=some (.int .u32 (a.am:Nat))/\wx.cell? ⟨w.heap.size,4,none⟩=some (.int .i64 a.aw)):=hC
 have HA:Hid (St own (w.alloc (.cells (aqC a) 38)) G (w.alloc (.cells (aqC a) 38)) k):=hA
 have c6:=hA.c6
 have d14:=hA.d14 hr.ht
 have HT:Hid (k.ts i=some t):=hr.ht
 have HI:Hid (t.on=-1/\t.left=0):=hr.idle
 have HAV:Hid (a.av < 4294967296):=hav
 have HXO:Hid (k.os o=some x/\x.q.length < 1000):=⟨hx,hq⟩
 have HAW:Hid (1<=a.aw/\a.aw<=1073741824):=haw
 have hpos:0 < a.aw:=by omega
 have HE:Hid (sleeps k i t (o:Int) a=(Kn.setO ({ (Kn.setT { k with rd:=Rd.rmX k.rd (i:Int) } i (t.asks (o:Int) a)) with ts:=set1 ((Kn.setT { k with rd:=Rd.rmX k.rd (i:Int) } i (t.asks (o:Int) a)):Kn).ts i (some ((t.asks (o:Int) a).lt2 (a.aw) k.wc)),wc:=k.wc+1 }:Kn) o { x with q:=Wt.putL x.q (i:Int) t.rank })):=by
  show _=_
  unfold sleeps Ta.lt2 Ta.asks Kn.setT Kn.setO
  simp only [set1_set1]
  rw [if_pos (show(0:Int)<=(o:Int) by omega)]
  simp only [Int.toNat_natCast,hx]
  rw [if_neg (by omega)]
 clear h hr hA hX hC hz0 hx hq
 go_enter Tryz.func162,Tryz.ntmps162
 go_wp2
 go_region_held3 (fun w'=>w'.cell? ⟨G.kp,6,none⟩=some (.pointer (some ⟨G.rp,0,none⟩))/\w'.cell? ⟨G.tp i,14,none⟩=some (.int .i64 (i:Nat))) (go_keep) (first
  |(go_at_call 69;refine(k_remove HA.out.drew _).mono ?_;rintro e w1 ⟨⟨y,rfl⟩,h1⟩;have S1:Hid (St own (w.alloc (.cells (aqC a) 38)) G w1 { k with rd:=Rd.rmX k.rd i }):=h1;have zh1c6:=h1.c6;have zh1c7:=h1.c7;have zh1d14:=h1.d14 HT.out;obtain⟨y0,y1,y2,y3,y4⟩:=HC.out _ _ h1;have q1:=h1.d1 HT.out;have q5:=h1.d5 HT.out;have q6:=h1.d6 HT.out;have q7:=h1.d7 HT.out;have q8:=h1.d8 HT.out;have q9:=h1.d9 HT.out;have q16:=h1.tc HT.out 16 rfl;have f1:=h1.tfree HT.out 1;have f5:=h1.tfree HT.out 5;have f6:=h1.tfree HT.out 6;have f7:=h1.tfree HT.out 7;have f8:=h1.tfree HT.out 8;have f9:=h1.tfree HT.out 9;have f16:=h1.tfree HT.out 16;have ne1:=box_ne HZ0.out h1 HT.out;have ne2:=Ne.symm ne1;clear h1)
  | fail)
 go_wp2
 go_region
 generalize hW2:World.drew _=W2
 have S2:Hid (St own (w.alloc (.cells (aqC a) 38)) G W2 (Kn.setT { k with rd:=Rd.rmX k.rd (i:Int) } i (t.asks (o:Int) a))):=by
  rw [←hW2]
  exact(S1.out.setL HT.out [(1,.int .u8 2),(5,.int .u8 a.wh),(6,.int .u32 (a.ah:Nat)),(7,.int .u32 (a.av:Nat)),(8,.int .u32 (a.am:Nat)),(9,.int .i64 a.aw),(16,.pointer (some ⟨G.xp o,0,none⟩))] (t.asks (o:Int) a) rfl rfl (asks_cells G i t _ a _ (onP_at G o)) (Or.inr HAV.out)).drew
 have HT2:Hid ((Kn.setT { k with rd:=Rd.rmX k.rd (i:Int) } i (t.asks (o:Int) a)).ts i=some (t.asks (o:Int) a)):=setT_at _ _ _
 clear hW2 y0 y1 y2 y3 y4 q1 q5 q6 q7 q8 q9 q16 f1 f5 f6 f7 f8 f9 f16 ne1 ne2 S1
 have z4:=(HC.out _ _ S2.out).2.2.2.2
 have z7:=S2.out.c7
 have z14:=S2.out.d14 HT2.out
 go_wp2
 go_region_held3 (fun w'=>w'.cell? ⟨G.kp,7,none⟩=some (.pointer (some ⟨G.ep,0,none⟩))/\w'.cell? ⟨G.tp i,14,none⟩=some (.int .i64 (i:Nat))/\w'.cell? ⟨w.heap.size,4,none⟩=some (.int .i64 a.aw)) (go_keep) (first
  |(go_at_call 131;refine(k_dput S2.out.drew HT2.out (show t.left<=0 by have:=HI.out.2;omega) a.aw HAW.out).mono ?_;rintro e w3 ⟨⟨yy,rfl⟩,h3⟩;have S3:Hid (St own (w.alloc (.cells (aqC a) 38)) G w3 ({ (Kn.setT { k with rd:=Rd.rmX k.rd (i:Int) } i (t.asks (o:Int) a)) with ts:=set1 ((Kn.setT { k with rd:=Rd.rmX k.rd (i:Int) } i (t.asks (o:Int) a)):Kn).ts i (some ((t.asks (o:Int) a).lt2 (a.aw) k.wc)),wc:=k.wc+1 }:Kn)):=h3;have v7:=h3.c7;have v14:=h3.d14 (i:=i) (t:=(t.asks (o:Int) a).lt2 (a.aw) k.wc) (set1_at _ _ _);have v4:=(HC.out _ _ h3).2.2.2.2;clear h3)
  | fail)
 have HT3:Hid (({ (Kn.setT { k with rd:=Rd.rmX k.rd (i:Int) } i (t.asks (o:Int) a)) with ts:=set1 ((Kn.setT { k with rd:=Rd.rmX k.rd (i:Int) } i (t.asks (o:Int) a)):Kn).ts i (some ((t.asks (o:Int) a).lt2 (a.aw) k.wc)),wc:=k.wc+1 }:Kn).ts i=some ((t.asks (o:Int) a).lt2 (a.aw) k.wc)):=set1_at _ _ _
 have u6:=S3.out.e6 (show({ (Kn.setT { k with rd:=Rd.rmX k.rd (i:Int) } i (t.asks (o:Int) a)) with ts:=set1 ((Kn.setT { k with rd:=Rd.rmX k.rd (i:Int) } i (t.asks (o:Int) a)):Kn).ts i (some ((t.asks (o:Int) a).lt2 (a.aw) k.wc)),wc:=k.wc+1 }:Kn).os o=some x from HXO.out.1)
 have u14:=S3.out.d14 (t:=(t.asks (o:Int) a).lt2 (a.aw) k.wc) HT3.out
 have u4:w3.cell? ⟨G.tp i,4,none⟩=some (.int .i64 t.rank):=S3.out.d4 (t:=(t.asks (o:Int) a).lt2 (a.aw) k.wc) HT3.out
 go_wp2
 go_region_held3 (fun w'=>w'.cell? ⟨G.xp o,6,none⟩=some (.pointer (some ⟨G.qp o,0,none⟩))/\w'.cell? ⟨G.tp i,14,none⟩=some (.int .i64 (i:Nat))/\w'.cell? ⟨G.tp i,4,none⟩=some (.int .i64 t.rank)) (go_keep) (first
  |(go_at_call 190;refine(k_wput S3.out.drew (show({ (Kn.setT { k with rd:=Rd.rmX k.rd (i:Int) } i (t.asks (o:Int) a)) with ts:=set1 ((Kn.setT { k with rd:=Rd.rmX k.rd (i:Int) } i (t.asks (o:Int) a)):Kn).ts i (some ((t.asks (o:Int) a).lt2 (a.aw) k.wc)),wc:=k.wc+1 }:Kn).os o=some x from HXO.out.1) HXO.out.2 _ _).mono ?_;rintro e w5 ⟨⟨yy,rfl⟩,h5⟩;have S5:Hid (St own (w.alloc (.cells (aqC a) 38)) G w5 (Kn.setO ({ (Kn.setT { k with rd:=Rd.rmX k.rd (i:Int) } i (t.asks (o:Int) a)) with ts:=set1 ((Kn.setT { k with rd:=Rd.rmX k.rd (i:Int) } i (t.asks (o:Int) a)):Kn).ts i (some ((t.asks (o:Int) a).lt2 (a.aw) k.wc)),wc:=k.wc+1 }:Kn) o { x with q:=Wt.putL x.q (i:Int) t.rank })):=h5;have HX5:Hid ((Kn.setO ({ (Kn.setT { k with rd:=Rd.rmX k.rd (i:Int) } i (t.asks (o:Int) a)) with ts:=set1 ((Kn.setT { k with rd:=Rd.rmX k.rd (i:Int) } i (t.asks (o:Int) a)):Kn).ts i (some ((t.asks (o:Int) a).lt2 (a.aw) k.wc)),wc:=k.wc+1 }:Kn) o { x with q:=Wt.putL x.q (i:Int) t.rank }).os o=some { x with q:=Wt.putL x.q (i:Int) t.rank }):=setO_at _ _ _;have x6:=h5.e6 HX5.out;have x14:=h5.d14 (t:=(t.asks (o:Int) a).lt2 (a.aw) k.wc) (show(Kn.setO ({ (Kn.setT { k with rd:=Rd.rmX k.rd (i:Int) } i (t.asks (o:Int) a)) with ts:=set1 ((Kn.setT { k with rd:=Rd.rmX k.rd (i:Int) } i (t.asks (o:Int) a)):Kn).ts i (some ((t.asks (o:Int) a).lt2 (a.aw) k.wc)),wc:=k.wc+1 }:Kn) o { x with q:=Wt.putL x.q (i:Int) t.rank }).ts i=some ((t.asks (o:Int) a).lt2 (a.aw) k.wc) from set1_at _ _ _);have x4:w5.cell? ⟨G.tp i,4,none⟩=some (.int .i64 t.rank):=h5.d4 (t:=(t.asks (o:Int) a).lt2 (a.aw) k.wc) (show(Kn.setO ({ (Kn.setT { k with rd:=Rd.rmX k.rd (i:Int) } i (t.asks (o:Int) a)) with ts:=set1 ((Kn.setT { k with rd:=Rd.rmX k.rd (i:Int) } i (t.asks (o:Int) a)):Kn).ts i (some ((t.asks (o:Int) a).lt2 (a.aw) k.wc)),wc:=k.wc+1 }:Kn) o { x with q:=Wt.putL x.q (i:Int) t.rank }).ts i=some ((t.asks (o:Int) a).lt2 (a.aw) k.wc) from set1_at _ _ _);clear h5)
  | fail)
 go_wp2
 go_end0
 refine⟨rfl,?_⟩
 rw [HE.out]
 exact S5.out.from HX.out
theorem wait2_any(h:St o0 w0 G w k){i:Nat}{t:Ta}(hr:Rn k i t)(a:Aq)(hav:a.av < 4294967296)(haw:a.aw < 0){o:Nat}{x:Th}(hx:k.os o=some x)(hq:x.q.length < 1000):Calls Tryz.prog 162 #[.pointer (some ⟨G.kp,0,none⟩),.pointer (some ⟨G.tp i,0,none⟩),.pointer (some ⟨G.xp o,0,none⟩),aqV a] w fun e w'=>e=.returned (.tuple #[])/\St o0 w0 G w' (sleeps k i t (o:Int) a):=by
 obtain⟨own,hA,hX,hz0,hC⟩:=own_box h a
 have HZ0:Hid (own w.heap.size=0):=hz0
 have HX:Hid (Ext o0 own w0 (w.alloc (.cells (aqC a) 38))):=hX
 have HC:Hid (∀ wx k',St own (w.alloc (.cells (aqC a) 38)) G wx k'->wx.cell? ⟨w.heap.size,0,none⟩=some (.int .u8 a.wh)/\wx.cell? ⟨w.heap.size,1,none⟩=some (.int .u32 (a.ah:Nat))/\wx.cell? ⟨w.heap.size,2,none⟩=some (.int .u32 (a.av:Nat))/\wx.cell? ⟨w.heap.size,3,none⟩=some (.int .u32 (a.am:Nat))/\wx.cell? ⟨w.heap.size,4,none⟩=some (.int .i64 a.aw)):=hC
 have HA:Hid (St own (w.alloc (.cells (aqC a) 38)) G (w.alloc (.cells (aqC a) 38)) k):=hA
 have c6:=hA.c6
 have d14:=hA.d14 hr.ht
 have HT:Hid (k.ts i=some t):=hr.ht
 have HI:Hid (t.on=-1/\t.left=0):=hr.idle
 have HAV:Hid (a.av < 4294967296):=hav
 have HXO:Hid (k.os o=some x/\x.q.length < 1000):=⟨hx,hq⟩
 have hpos:¬ 0 < a.aw:=by omega
 have HE:Hid (sleeps k i t (o:Int) a=(Kn.setO ({ (Kn.setT { k with rd:=Rd.rmX k.rd (i:Int) } i (t.asks (o:Int) a)) with ts:=set1 ((Kn.setT { k with rd:=Rd.rmX k.rd (i:Int) } i (t.asks (o:Int) a)):Kn).ts i (some ((t.asks (o:Int) a).lt2 (-1) k.wc)),wc:=k.wc+1 }:Kn) o { x with q:=Wt.putL x.q (i:Int) t.rank })):=by
  show _=_
  unfold sleeps Ta.lt2 Ta.asks Kn.setT Kn.setO
  simp only [set1_set1]
  rw [if_pos (show(0:Int)<=(o:Int) by omega)]
  simp only [Int.toNat_natCast,hx]
  rw [if_pos haw]
 clear h hr hA hX hC hz0 hx hq
 go_enter Tryz.func162,Tryz.ntmps162
 go_wp2
 go_region_held3 (fun w'=>w'.cell? ⟨G.kp,6,none⟩=some (.pointer (some ⟨G.rp,0,none⟩))/\w'.cell? ⟨G.tp i,14,none⟩=some (.int .i64 (i:Nat))) (go_keep) (first
  |(go_at_call 69;refine(k_remove HA.out.drew _).mono ?_;rintro e w1 ⟨⟨y,rfl⟩,h1⟩;have S1:Hid (St own (w.alloc (.cells (aqC a) 38)) G w1 { k with rd:=Rd.rmX k.rd i }):=h1;have zh1c6:=h1.c6;have zh1c7:=h1.c7;have zh1d14:=h1.d14 HT.out;obtain⟨y0,y1,y2,y3,y4⟩:=HC.out _ _ h1;have q1:=h1.d1 HT.out;have q5:=h1.d5 HT.out;have q6:=h1.d6 HT.out;have q7:=h1.d7 HT.out;have q8:=h1.d8 HT.out;have q9:=h1.d9 HT.out;have q16:=h1.tc HT.out 16 rfl;have f1:=h1.tfree HT.out 1;have f5:=h1.tfree HT.out 5;have f6:=h1.tfree HT.out 6;have f7:=h1.tfree HT.out 7;have f8:=h1.tfree HT.out 8;have f9:=h1.tfree HT.out 9;have f16:=h1.tfree HT.out 16;have ne1:=box_ne HZ0.out h1 HT.out;have ne2:=Ne.symm ne1;clear h1)
  | fail)
 go_wp2
 go_region
 generalize hW2:World.drew _=W2
 have S2:Hid (St own (w.alloc (.cells (aqC a) 38)) G W2 (Kn.setT { k with rd:=Rd.rmX k.rd (i:Int) } i (t.asks (o:Int) a))):=by
  rw [←hW2]
  exact(S1.out.setL HT.out [(1,.int .u8 2),(5,.int .u8 a.wh),(6,.int .u32 (a.ah:Nat)),(7,.int .u32 (a.av:Nat)),(8,.int .u32 (a.am:Nat)),(9,.int .i64 a.aw),(16,.pointer (some ⟨G.xp o,0,none⟩))] (t.asks (o:Int) a) rfl rfl (asks_cells G i t _ a _ (onP_at G o)) (Or.inr HAV.out)).drew
 have HT2:Hid ((Kn.setT { k with rd:=Rd.rmX k.rd (i:Int) } i (t.asks (o:Int) a)).ts i=some (t.asks (o:Int) a)):=setT_at _ _ _
 clear hW2 y0 y1 y2 y3 y4 q1 q5 q6 q7 q8 q9 q16 f1 f5 f6 f7 f8 f9 f16 ne1 ne2 S1
 have z4:=(HC.out _ _ S2.out).2.2.2.2
 have S3:Hid (St own (w.alloc (.cells (aqC a) 38)) G W2 ({ (Kn.setT { k with rd:=Rd.rmX k.rd (i:Int) } i (t.asks (o:Int) a)) with ts:=set1 ((Kn.setT { k with rd:=Rd.rmX k.rd (i:Int) } i (t.asks (o:Int) a)):Kn).ts i (some ((t.asks (o:Int) a).lt2 (-1) k.wc)),wc:=k.wc+1 }:Kn)):=S2.out.later HT2.out (show t.left<=0 by have:=HI.out.2;omega) (-1) k.wc (by omega)
 have HT3:Hid (({ (Kn.setT { k with rd:=Rd.rmX k.rd (i:Int) } i (t.asks (o:Int) a)) with ts:=set1 ((Kn.setT { k with rd:=Rd.rmX k.rd (i:Int) } i (t.asks (o:Int) a)):Kn).ts i (some ((t.asks (o:Int) a).lt2 (-1) k.wc)),wc:=k.wc+1 }:Kn).ts i=some ((t.asks (o:Int) a).lt2 (-1) k.wc)):=set1_at _ _ _
 have u6:=S3.out.e6 (show({ (Kn.setT { k with rd:=Rd.rmX k.rd (i:Int) } i (t.asks (o:Int) a)) with ts:=set1 ((Kn.setT { k with rd:=Rd.rmX k.rd (i:Int) } i (t.asks (o:Int) a)):Kn).ts i (some ((t.asks (o:Int) a).lt2 (-1) k.wc)),wc:=k.wc+1 }:Kn).os o=some x from HXO.out.1)
 have u14:=S3.out.d14 (t:=(t.asks (o:Int) a).lt2 (-1) k.wc) HT3.out
 have u4:W2.cell? ⟨G.tp i,4,none⟩=some (.int .i64 t.rank):=S3.out.d4 (t:=(t.asks (o:Int) a).lt2 (-1) k.wc) HT3.out
 go_wp2
 go_region_held3 (fun w'=>w'.cell? ⟨G.xp o,6,none⟩=some (.pointer (some ⟨G.qp o,0,none⟩))/\w'.cell? ⟨G.tp i,14,none⟩=some (.int .i64 (i:Nat))/\w'.cell? ⟨G.tp i,4,none⟩=some (.int .i64 t.rank)) (go_keep) (first
  |(go_at_call 190;refine(k_wput S3.out.drew (show({ (Kn.setT { k with rd:=Rd.rmX k.rd (i:Int) } i (t.asks (o:Int) a)) with ts:=set1 ((Kn.setT { k with rd:=Rd.rmX k.rd (i:Int) } i (t.asks (o:Int) a)):Kn).ts i (some ((t.asks (o:Int) a).lt2 (-1) k.wc)),wc:=k.wc+1 }:Kn).os o=some x from HXO.out.1) HXO.out.2 _ _).mono ?_;rintro e w5 ⟨⟨yy,rfl⟩,h5⟩;have S5:Hid (St own (w.alloc (.cells (aqC a) 38)) G w5 (Kn.setO ({ (Kn.setT { k with rd:=Rd.rmX k.rd (i:Int) } i (t.asks (o:Int) a)) with ts:=set1 ((Kn.setT { k with rd:=Rd.rmX k.rd (i:Int) } i (t.asks (o:Int) a)):Kn).ts i (some ((t.asks (o:Int) a).lt2 (-1) k.wc)),wc:=k.wc+1 }:Kn) o { x with q:=Wt.putL x.q (i:Int) t.rank })):=h5;have HX5:Hid ((Kn.setO ({ (Kn.setT { k with rd:=Rd.rmX k.rd (i:Int) } i (t.asks (o:Int) a)) with ts:=set1 ((Kn.setT { k with rd:=Rd.rmX k.rd (i:Int) } i (t.asks (o:Int) a)):Kn).ts i (some ((t.asks (o:Int) a).lt2 (-1) k.wc)),wc:=k.wc+1 }:Kn) o { x with q:=Wt.putL x.q (i:Int) t.rank }).os o=some { x with q:=Wt.putL x.q (i:Int) t.rank }):=setO_at _ _ _;have x6:=h5.e6 HX5.out;have x14:=h5.d14 (t:=(t.asks (o:Int) a).lt2 (-1) k.wc) (show(Kn.setO ({ (Kn.setT { k with rd:=Rd.rmX k.rd (i:Int) } i (t.asks (o:Int) a)) with ts:=set1 ((Kn.setT { k with rd:=Rd.rmX k.rd (i:Int) } i (t.asks (o:Int) a)):Kn).ts i (some ((t.asks (o:Int) a).lt2 (-1) k.wc)),wc:=k.wc+1 }:Kn) o { x with q:=Wt.putL x.q (i:Int) t.rank }).ts i=some ((t.asks (o:Int) a).lt2 (-1) k.wc) from set1_at _ _ _);have x4:w5.cell? ⟨G.tp i,4,none⟩=some (.int .i64 t.rank):=h5.d4 (t:=(t.asks (o:Int) a).lt2 (-1) k.wc) (show(Kn.setO ({ (Kn.setT { k with rd:=Rd.rmX k.rd (i:Int) } i (t.asks (o:Int) a)) with ts:=set1 ((Kn.setT { k with rd:=Rd.rmX k.rd (i:Int) } i (t.asks (o:Int) a)):Kn).ts i (some ((t.asks (o:Int) a).lt2 (-1) k.wc)),wc:=k.wc+1 }:Kn) o { x with q:=Wt.putL x.q (i:Int) t.rank }).ts i=some ((t.asks (o:Int) a).lt2 (-1) k.wc) from set1_at _ _ _);clear h5)
  | fail)
 go_wp2
 go_end0
 refine⟨rfl,?_⟩
 rw [HE.out]
 exact S5.out.from HX.out
end
section
variable {o0:Nat->Nat} {w0 w w':World} {G:Geo} {k:Kn}
theorem sleep_any(h:St o0 w0 G w k){i:Nat}{t:Ta}(hr:Rn k i t)(a:Aq)(hav:a.av < 4294967296)(ha:a.wh=2):Calls Tryz.prog 117 #[.pointer (some ⟨G.kp,0,none⟩),.pointer (some ⟨G.tp i,0,none⟩),aqV a] w fun e w'=>e=.returned (.tuple #[.bool (ask1 k i t a).1,.int .i64 (ask1 k i t a).2.2.1])/\St o0 w0 G w' (askS k i t a):=by
 have h1:=h.below (alloc_below w (.cells (aqC a) 38))
 obtain⟨c0,c1,c2,c3,c4⟩:=asked_cells (w:=w) (a:=a) (Below.refl _ _)
 by_cases hw:a.aw < 0∨1073741824 < a.aw
 ·have e1:ask1 k i t a=(true,0,4,k):=by unfold ask1;rw [if_neg (by omega),if_neg (by omega),if_neg (by omega),if_pos ha,if_pos hw]
  have e2:askS k i t a=answer k i 4 0:=by
   rw [askS_none (by rw [ha];decide) (by rw [e1]),if_neg (by omega),e1]
  rw [e2,e1]
  have HR:=reply_any h1 hr 4 0
  clear h h1 hr e1 e2 ha
  generalize answer k i 4 0=k2 at *
  rcases hw with hw | hw
  ·go_enter Tryz.func117,Tryz.ntmps117
   go_wp2_with (go_at_call 161;refine HR.mono ?_;rintro e w2 ⟨rfl,h2⟩;have S2:Hid (St o0 w0 G w2 k2):=h2;clear h2)
   go_ret2
   exact⟨rfl,S2.out⟩
  ·have hn:¬ a.aw < 0:=by omega
   go_enter Tryz.func117,Tryz.ntmps117
   go_wp2_with (go_at_call 161;refine HR.mono ?_;rintro e w2 ⟨rfl,h2⟩;have S2:Hid (St o0 w0 G w2 k2):=h2;clear h2)
   go_ret2
   exact⟨rfl,S2.out⟩
 ·have hn:¬ a.aw < 0:=by omega
  have hm:¬ 1073741824 < a.aw:=by omega
  by_cases hz:a.aw=0
  ·have e1:ask1 k i t a=(true,0,0,k):=by unfold ask1;rw [if_neg (by omega),if_neg (by omega),if_neg (by omega),if_pos ha,if_neg hw,if_pos hz]
   have e2:askS k i t a=answer k i 0 0:=by
    rw [askS_none (by rw [ha];decide) (by rw [e1]),if_neg (by omega),e1]
   rw [e2,e1]
   have HR:=reply_any h1 hr 0 0
   have hz':(a.aw == 0)=true:=by simpa using hz
   clear h h1 hr e1 e2 ha hw hz
   generalize answer k i 0 0=k2 at *
   go_enter Tryz.func117,Tryz.ntmps117
   go_wp2_with (go_at_call 161;refine HR.mono ?_;rintro e w2 ⟨rfl,h2⟩;have S2:Hid (St o0 w0 G w2 k2):=h2;clear h2)
   go_ret2
   exact⟨rfl,S2.out⟩
  ·have e1:ask1 k i t a=(false,0,0,sleeps k i t (-1) a):=by unfold ask1;rw [if_neg (by omega),if_neg (by omega),if_neg (by omega),if_pos ha,if_neg hw,if_neg hz]
   have e2:askS k i t a=sleeps k i t (-1) a:=by rw [askS_wait (by rw [e1]),e1]
   rw [e2,e1]
   have HR:=wait0_any h1 hr a hav (by omega)
   have hz':(a.aw == 0)=false:=by simpa using hz
   clear h h1 hr e1 e2 ha hw hz
   generalize sleeps k i t (-1) a=k2 at *
   go_enter Tryz.func117,Tryz.ntmps117
   go_wp2_with (go_at_call 162;refine HR.mono ?_;rintro e w2 ⟨rfl,h2⟩;have S2:Hid (St o0 w0 G w2 k2):=h2;clear h2)
   go_ret2
   exact⟨rfl,S2.out⟩
theorem refusal_any(z:Int)(w:World):Calls Tryz.prog 191 #[.int .u8 z] w fun e w'=>e=.returned (.int .i64 (if z=7∨z=8 then 10 else if z=5 then 12 else 11))/\w=w':=by
 by_cases h7:z=7
 ·subst h7
  go_enter Tryz.func191,Tryz.ntmps191
  go_wp2
  go_ret
  exact⟨rfl,rfl⟩
 ·by_cases h8:z=8
  ·subst h8
   go_enter Tryz.func191,Tryz.ntmps191
   go_wp2
   go_ret
   exact⟨rfl,rfl⟩
  ·by_cases h5:z=5
   ·subst h5
    go_enter Tryz.func191,Tryz.ntmps191
    go_wp2
    go_ret
    exact⟨rfl,rfl⟩
   ·rw [if_neg (by omega),if_neg h5]
    have e7:(z == 7)=false:=by simpa using h7
    have e8:(z == 8)=false:=by simpa using h8
    have e5:(z == 5)=false:=by simpa using h5
    go_enter Tryz.func191,Tryz.ntmps191
    go_wp2
    go_ret
    exact⟨rfl,rfl⟩
end
end Go.Proofs.YtbbdndfibjdcfaaGreat
namespace Go.Proofs.YtbbdndfibjdcfaaGreat
open Go Go.RowKit
theorem mayw_any(x:Int)(w:World):Calls Tryz.prog 166 #[.int .u8 x] w fun e w'=>e=.returned (.bool (decide (Ob.Tk.MayW x)))/\w=w':=by
 by_cases h:Ob.Tk.MayW x
 ·have h':=h
  unfold Ob.Tk.MayW at h'
  rcases h' with rfl | rfl | rfl | rfl | rfl | rfl | rfl | rfl
  all_goals
   go_enter Tryz.func166,Tryz.ntmps166
   go_wp2
   go_ret
   exact⟨rfl,rfl⟩
 ·rw [decide_eq_false h]
  unfold Ob.Tk.MayW at h
  have e1:(x == 2)=false:=by simp;omega
  have e2:(x == 3)=false:=by simp;omega
  have e3:(x == 5)=false:=by simp;omega
  have e4:(x == 7)=false:=by simp;omega
  have e5:(x == 8)=false:=by simp;omega
  have e6:(x == 9)=false:=by simp;omega
  have e7:(x == 11)=false:=by simp;omega
  have e8:(x == 14)=false:=by simp;omega
  clear h
  go_enter Tryz.func166,Tryz.ntmps166
  go_wp2
  go_ret
  exact⟨rfl,rfl⟩
theorem blocks_any(a:Aq)(w:World):Calls Tryz.prog 124 #[aqV a] w fun e w'=>e=.returned (.bool (Ob.Tk.blkB a.wh a.aw))/\Below w.heap.size w w':=by
 obtain⟨c0,c1,c2,c3,c4⟩:=asked_cells (w:=w) (a:=a) (Below.refl _ _)
 have hb:=alloc_below w (.cells (aqC a) 38)
 have HM:=mayw_any a.wh (w.alloc (.cells (aqC a) 38))
 have e:Ob.Tk.blkB a.wh a.aw=(decide (Ob.Tk.MayW a.wh) && (a.aw != 0)):=by
  unfold Ob.Tk.blkB Ob.Tk.Blk
  by_cases h1:Ob.Tk.MayW a.wh <;> by_cases h2:a.aw=0 <;> simp [h1,h2]
 rw [e]
 cases hm:decide (Ob.Tk.MayW a.wh) with
 | false =>
  rw [hm] at HM
  clear hm e
  go_enter Tryz.func124,Tryz.ntmps124
  go_wp2_with (go_at_call 166;refine HM.mono ?_;rintro e w1 ⟨rfl,rfl⟩)
  go_ret
  exact⟨rfl,hb⟩
 | true =>
  rw [hm] at HM
  clear hm e
  go_enter Tryz.func124,Tryz.ntmps124
  go_wp2_with (go_at_call 166;refine HM.mono ?_;rintro e w1 ⟨rfl,rfl⟩)
  go_ret
  exact⟨by simp,hb⟩
section
variable {o0:Nat->Nat} {w0 w w':World} {G:Geo} {k:Kn}
noncomputable def askE(k:Kn)(a:Aq):Int :=
 if Hd.placeE k.oh a.ah≠0 then Hd.placeE k.oh a.ah
 else match k.os (Hd.placeP k.oh a.ah) with
  | none=>1
  | some x=>if Ob.Tk.fitB a.wh x.x.k=false∨(a.wh=11/\3 < a.am) then 1 else if Ob.Tk.blkB a.wh a.aw=true/\1073741824 < a.aw then 4 else 0
theorem asked_no(h:St o0 w0 G w k)(a:Aq)(hah:a.ah<=4294967295)(he:Hd.placeE k.oh a.ah≠0):Calls Tryz.prog 163 #[.pointer (some ⟨G.kp,0,none⟩),aqV a] w fun e w'=>e=.returned (.tuple #[.pointer none,.int .i64 (Hd.placeE k.oh a.ah)])/\Below w.heap.size w w':=by
 have hb:=alloc_below w (.cells (aqC a) 38)
 have h1:=h.below hb
 obtain⟨c0,c1,c2,c3,c4⟩:=asked_cells (w:=w) (a:=a) (Below.refl _ _)
 have HF:Hid (Calls Tryz.prog 50 #[.pointer (some ⟨G.kp,4,none⟩),.int .u32 (a.ah:Nat)] (w.alloc (.cells (aqC a) 38)).drew _):=findXno h1.drew a.ah hah he
 have he':(Hd.placeE k.oh a.ah == 0)=false:=by simpa using he
 have he2:(Hd.placeE k.oh a.ah != 0)=true:=by simpa using he
 have HB:Hid (Below w.heap.size w (w.alloc (.cells (aqC a) 38)).drew):=hb.trans ((below_drewN _ 1).mono hb.size)
 clear h h1 he
 generalize Hd.placeE k.oh a.ah=er at *
 go_enter Tryz.func163,Tryz.ntmps163
 go_wp2
 go_region_held3 (fun w'=>w'.cell? ⟨w.heap.size,1,none⟩=some (.int .u32 (a.ah:Nat))) (go_keep) (first
  |(go_at_call 50;refine HF.out.mono ?_;rintro e w1 ⟨rfl,h1,b1⟩;have B1:Hid (Below w.heap.size w w1):=HB.out.trans (b1.mono HB.out.size);have y1:=(b1.cell (p:=⟨w.heap.size,1,none⟩) (cell_lt c1)).trans c1;clear h1 b1)
  | fail)
 go_wp2
 go_ret2
 exact⟨rfl,B1.out⟩
end
end Go.Proofs.YtbbdndfibjdcfaaGreat
namespace Go.Proofs.YtbbdndfibjdcfaaGreat
open Go Go.RowKit
section
variable {o0:Nat->Nat} {w0 w w':World} {G:Geo} {k:Kn}
theorem asked_a0(h:St o0 w0 G w k)(hG:Shown G)(a:Aq)(hah:a.ah<=4294967295)(he:Hd.placeE k.oh a.ah=0){x:Th}(hx:k.os (Hd.placeP k.oh a.ah)=some x)(hkd:0<=x.x.k/\x.x.k<=255)(hf:Ob.Tk.fitB a.wh x.x.k=false):Calls Tryz.prog 163 #[.pointer (some ⟨G.kp,0,none⟩),aqV a] w fun e w'=>e=.returned (.tuple #[.pointer none,.int .i64 1])/\Below w.heap.size w w':=by
 have hb:=alloc_below w (.cells (aqC a) 38)
 have h1:=h.below hb
 obtain⟨c0,c1,c2,c3,c4⟩:=asked_cells (w:=w) (a:=a) (Below.refl _ _)
 have HF:Hid (Calls Tryz.prog 50 #[.pointer (some ⟨G.kp,4,none⟩),.int .u32 (a.ah:Nat)] (w.alloc (.cells (aqC a) 38)).drew _):=findX h1.drew hG a.ah hah he hx
 have HB:Hid (Below w.heap.size w (w.alloc (.cells (aqC a) 38)).drew/\(w.alloc (.cells (aqC a) 38)).drew.heap.size=w.heap.size+1):=⟨hb.trans ((below_drewN _ 1).mono hb.size),alloc_size w _⟩
 have HBx:Hid (Below (w.heap.size+1) (w.alloc (.cells (aqC a) 38)) (w.alloc (.cells (aqC a) 38)).drew):=(below_drewN (w.alloc (.cells (aqC a) 38)) 1).mono (by rw [alloc_size];exact Nat.le_refl _)
 have HX:Hid (k.os (Hd.placeP k.oh a.ah)=some x):=hx
 have HFit:Hid (∀ wx,Calls Tryz.prog 100 #[aqV a,.int .u8 x.x.k] wx fun e w'=>e=.returned (.bool false)/\Below wx.heap.size wx w'):=fun wx=>hf ▸ Ob.Tk.fits_any a.wh a.ah a.av a.am a.aw x.x.k hkd wx
 clear h h1 he hx hf
 generalize Hd.placeP k.oh a.ah=o at *
 go_enter Tryz.func163,Tryz.ntmps163
 go_wp2
 go_region_held3 (fun w'=>w'.cell? ⟨w.heap.size,1,none⟩=some (.int .u32 (a.ah:Nat))) (go_keep) (first
  |(go_at_call 50;refine HF.out.mono ?_;rintro e w1 ⟨rfl,h1,b1⟩;have B1:Hid (Below (w.heap.size+1) (w.alloc (.cells (aqC a) 38)) w1):=HBx.out.trans (b1.mono (by rw [HB.out.2];exact Nat.le_refl _));obtain⟨y0,y1,y2,y3,y4⟩:=asked_cells B1.out;have q2:=h1.e2 HX.out;clear h1 b1)
  | fail)
 go_wp2
 have A0:∀ g,(Ob.Tk.above w1 g).cell? ⟨w.heap.size,0,none⟩=some (.int .u8 a.wh):=fun g=>((Ob.Tk.below_above w1 g).cell (p:=⟨w.heap.size,0,none⟩) (cell_lt y0)).trans y0
 have A1:∀ g,(Ob.Tk.above w1 g).cell? ⟨w.heap.size,1,none⟩=some (.int .u32 (a.ah:Nat)):=fun g=>((Ob.Tk.below_above w1 g).cell (p:=⟨w.heap.size,1,none⟩) (cell_lt y1)).trans y1
 have A2:∀ g,(Ob.Tk.above w1 g).cell? ⟨w.heap.size,2,none⟩=some (.int .u32 (a.av:Nat)):=fun g=>((Ob.Tk.below_above w1 g).cell (p:=⟨w.heap.size,2,none⟩) (cell_lt y2)).trans y2
 have A3:∀ g,(Ob.Tk.above w1 g).cell? ⟨w.heap.size,3,none⟩=some (.int .u32 (a.am:Nat)):=fun g=>((Ob.Tk.below_above w1 g).cell (p:=⟨w.heap.size,3,none⟩) (cell_lt y3)).trans y3
 have A4:∀ g,(Ob.Tk.above w1 g).cell? ⟨w.heap.size,4,none⟩=some (.int .i64 a.aw):=fun g=>((Ob.Tk.below_above w1 g).cell (p:=⟨w.heap.size,4,none⟩) (cell_lt y4)).trans y4
 have AK:∀ g,(Ob.Tk.above w1 g).cell? ⟨G.xp o,2,none⟩=some (.int .u8 x.x.k):=fun g=>((Ob.Tk.below_above w1 g).cell (p:=⟨G.xp o,2,none⟩) (cell_lt q2)).trans q2
 refine Ob.Tk.wp_region_calm (by kernel_rfl) (by kernel_rfl) ?_
 repeat (go_big_quiet_step (first |(go_at_call 100;exact Ob.Tk.calm_call (HFit.out _))))
 refine wpQuiet_nil ?_
 intro w2 b2
 have B2:Hid (Below (w.heap.size+1) (w.alloc (.cells (aqC a) 38)) w2):=B1.out.trans (b2.mono (by have:=B1.out.size;rw [show(w.alloc (.cells (aqC a) 38)).heap.size=w.heap.size+1 from alloc_size w _] at this;exact this))
 obtain⟨z0,z1,z2,z3,z4⟩:=asked_cells B2.out
 clear b2 A0 A1 A2 A3 A4 AK
 go_wp2
 go_ret2
 exact⟨rfl,(alloc_below w _).trans (B2.out.mono (Nat.le_succ _))⟩
theorem asked_a1(h:St o0 w0 G w k)(hG:Shown G)(a:Aq)(hah:a.ah<=4294967295)(he:Hd.placeE k.oh a.ah=0){x:Th}(hx:k.os (Hd.placeP k.oh a.ah)=some x)(hkd:0<=x.x.k/\x.x.k<=255)(hf:Ob.Tk.fitB a.wh x.x.k=true)(h11:a.wh=11)(h3:3 < a.am):Calls Tryz.prog 163 #[.pointer (some ⟨G.kp,0,none⟩),aqV a] w fun e w'=>e=.returned (.tuple #[.pointer none,.int .i64 1])/\Below w.heap.size w w':=by
 have hb:=alloc_below w (.cells (aqC a) 38)
 have h1:=h.below hb
 obtain⟨c0,c1,c2,c3,c4⟩:=asked_cells (w:=w) (a:=a) (Below.refl _ _)
 have HF:Hid (Calls Tryz.prog 50 #[.pointer (some ⟨G.kp,4,none⟩),.int .u32 (a.ah:Nat)] (w.alloc (.cells (aqC a) 38)).drew _):=findX h1.drew hG a.ah hah he hx
 have HB:Hid (Below w.heap.size w (w.alloc (.cells (aqC a) 38)).drew/\(w.alloc (.cells (aqC a) 38)).drew.heap.size=w.heap.size+1):=⟨hb.trans ((below_drewN _ 1).mono hb.size),alloc_size w _⟩
 have HBx:Hid (Below (w.heap.size+1) (w.alloc (.cells (aqC a) 38)) (w.alloc (.cells (aqC a) 38)).drew):=(below_drewN (w.alloc (.cells (aqC a) 38)) 1).mono (by rw [alloc_size];exact Nat.le_refl _)
 have HX:Hid (k.os (Hd.placeP k.oh a.ah)=some x):=hx
 have HFit:Hid (∀ wx,Calls Tryz.prog 100 #[aqV a,.int .u8 x.x.k] wx fun e w'=>e=.returned (.bool true)/\Below wx.heap.size wx w'):=fun wx=>hf ▸ Ob.Tk.fits_any a.wh a.ah a.av a.am a.aw x.x.k hkd wx
 have h11b:(a.wh == 11)=true:=(by simpa using h11);have h3b:(3:Int) < (a.am:Int):=(by omega);clear h11 h3
 clear h h1 he hx hf
 generalize Hd.placeP k.oh a.ah=o at *
 go_enter Tryz.func163,Tryz.ntmps163
 go_wp2
 go_region_held3 (fun w'=>w'.cell? ⟨w.heap.size,1,none⟩=some (.int .u32 (a.ah:Nat))) (go_keep) (first
  |(go_at_call 50;refine HF.out.mono ?_;rintro e w1 ⟨rfl,h1,b1⟩;have B1:Hid (Below (w.heap.size+1) (w.alloc (.cells (aqC a) 38)) w1):=HBx.out.trans (b1.mono (by rw [HB.out.2];exact Nat.le_refl _));obtain⟨y0,y1,y2,y3,y4⟩:=asked_cells B1.out;have q2:=h1.e2 HX.out;clear h1 b1)
  | fail)
 go_wp2
 have A0:∀ g,(Ob.Tk.above w1 g).cell? ⟨w.heap.size,0,none⟩=some (.int .u8 a.wh):=fun g=>((Ob.Tk.below_above w1 g).cell (p:=⟨w.heap.size,0,none⟩) (cell_lt y0)).trans y0
 have A1:∀ g,(Ob.Tk.above w1 g).cell? ⟨w.heap.size,1,none⟩=some (.int .u32 (a.ah:Nat)):=fun g=>((Ob.Tk.below_above w1 g).cell (p:=⟨w.heap.size,1,none⟩) (cell_lt y1)).trans y1
 have A2:∀ g,(Ob.Tk.above w1 g).cell? ⟨w.heap.size,2,none⟩=some (.int .u32 (a.av:Nat)):=fun g=>((Ob.Tk.below_above w1 g).cell (p:=⟨w.heap.size,2,none⟩) (cell_lt y2)).trans y2
 have A3:∀ g,(Ob.Tk.above w1 g).cell? ⟨w.heap.size,3,none⟩=some (.int .u32 (a.am:Nat)):=fun g=>((Ob.Tk.below_above w1 g).cell (p:=⟨w.heap.size,3,none⟩) (cell_lt y3)).trans y3
 have A4:∀ g,(Ob.Tk.above w1 g).cell? ⟨w.heap.size,4,none⟩=some (.int .i64 a.aw):=fun g=>((Ob.Tk.below_above w1 g).cell (p:=⟨w.heap.size,4,none⟩) (cell_lt y4)).trans y4
 have AK:∀ g,(Ob.Tk.above w1 g).cell? ⟨G.xp o,2,none⟩=some (.int .u8 x.x.k):=fun g=>((Ob.Tk.below_above w1 g).cell (p:=⟨G.xp o,2,none⟩) (cell_lt q2)).trans q2
 refine Ob.Tk.wp_region_calm (by kernel_rfl) (by kernel_rfl) ?_
 repeat (go_big_quiet_step (first |(go_at_call 100;exact Ob.Tk.calm_call (HFit.out _))))
 refine wpQuiet_nil ?_
 intro w2 b2
 have B2:Hid (Below (w.heap.size+1) (w.alloc (.cells (aqC a) 38)) w2):=B1.out.trans (b2.mono (by have:=B1.out.size;rw [show(w.alloc (.cells (aqC a) 38)).heap.size=w.heap.size+1 from alloc_size w _] at this;exact this))
 obtain⟨z0,z1,z2,z3,z4⟩:=asked_cells B2.out
 clear b2 A0 A1 A2 A3 A4 AK
 go_wp2
 go_ret2
 exact⟨rfl,(alloc_below w _).trans (B2.out.mono (Nat.le_succ _))⟩
theorem asked_a2(h:St o0 w0 G w k)(hG:Shown G)(a:Aq)(hah:a.ah<=4294967295)(he:Hd.placeE k.oh a.ah=0){x:Th}(hx:k.os (Hd.placeP k.oh a.ah)=some x)(hkd:0<=x.x.k/\x.x.k<=255)(hf:Ob.Tk.fitB a.wh x.x.k=true)(h11:a.wh=11)(h3:¬ 3 < a.am)(hk:Ob.Tk.blkB a.wh a.aw=false):Calls Tryz.prog 163 #[.pointer (some ⟨G.kp,0,none⟩),aqV a] w fun e w'=>e=.returned (.tuple #[.pointer (some ⟨G.xp (Hd.placeP k.oh a.ah),0,none⟩),.int .i64 0])/\Below w.heap.size w w':=by
 have hb:=alloc_below w (.cells (aqC a) 38)
 have h1:=h.below hb
 obtain⟨c0,c1,c2,c3,c4⟩:=asked_cells (w:=w) (a:=a) (Below.refl _ _)
 have HF:Hid (Calls Tryz.prog 50 #[.pointer (some ⟨G.kp,4,none⟩),.int .u32 (a.ah:Nat)] (w.alloc (.cells (aqC a) 38)).drew _):=findX h1.drew hG a.ah hah he hx
 have HB:Hid (Below w.heap.size w (w.alloc (.cells (aqC a) 38)).drew/\(w.alloc (.cells (aqC a) 38)).drew.heap.size=w.heap.size+1):=⟨hb.trans ((below_drewN _ 1).mono hb.size),alloc_size w _⟩
 have HBx:Hid (Below (w.heap.size+1) (w.alloc (.cells (aqC a) 38)) (w.alloc (.cells (aqC a) 38)).drew):=(below_drewN (w.alloc (.cells (aqC a) 38)) 1).mono (by rw [alloc_size];exact Nat.le_refl _)
 have HX:Hid (k.os (Hd.placeP k.oh a.ah)=some x):=hx
 have HFit:Hid (∀ wx,Calls Tryz.prog 100 #[aqV a,.int .u8 x.x.k] wx fun e w'=>e=.returned (.bool true)/\Below wx.heap.size wx w'):=fun wx=>hf ▸ Ob.Tk.fits_any a.wh a.ah a.av a.am a.aw x.x.k hkd wx
 have HBl:Hid (∀ wx,Calls Tryz.prog 124 #[aqV a] wx fun e w'=>e=.returned (.bool false)/\Below wx.heap.size wx w'):=fun wx=>hk ▸ blocks_any a wx
 have h11b:(a.wh == 11)=true:=(by simpa using h11);have h3b:¬ (3:Int) < (a.am:Int):=(by omega);clear h11 h3
 clear h h1 he hx hf hk
 generalize Hd.placeP k.oh a.ah=o at *
 go_enter Tryz.func163,Tryz.ntmps163
 go_wp2
 go_region_held3 (fun w'=>w'.cell? ⟨w.heap.size,1,none⟩=some (.int .u32 (a.ah:Nat))) (go_keep) (first
  |(go_at_call 50;refine HF.out.mono ?_;rintro e w1 ⟨rfl,h1,b1⟩;have B1:Hid (Below (w.heap.size+1) (w.alloc (.cells (aqC a) 38)) w1):=HBx.out.trans (b1.mono (by rw [HB.out.2];exact Nat.le_refl _));obtain⟨y0,y1,y2,y3,y4⟩:=asked_cells B1.out;have q2:=h1.e2 HX.out;clear h1 b1)
  | fail)
 go_wp2
 have A0:∀ g,(Ob.Tk.above w1 g).cell? ⟨w.heap.size,0,none⟩=some (.int .u8 a.wh):=fun g=>((Ob.Tk.below_above w1 g).cell (p:=⟨w.heap.size,0,none⟩) (cell_lt y0)).trans y0
 have A1:∀ g,(Ob.Tk.above w1 g).cell? ⟨w.heap.size,1,none⟩=some (.int .u32 (a.ah:Nat)):=fun g=>((Ob.Tk.below_above w1 g).cell (p:=⟨w.heap.size,1,none⟩) (cell_lt y1)).trans y1
 have A2:∀ g,(Ob.Tk.above w1 g).cell? ⟨w.heap.size,2,none⟩=some (.int .u32 (a.av:Nat)):=fun g=>((Ob.Tk.below_above w1 g).cell (p:=⟨w.heap.size,2,none⟩) (cell_lt y2)).trans y2
 have A3:∀ g,(Ob.Tk.above w1 g).cell? ⟨w.heap.size,3,none⟩=some (.int .u32 (a.am:Nat)):=fun g=>((Ob.Tk.below_above w1 g).cell (p:=⟨w.heap.size,3,none⟩) (cell_lt y3)).trans y3
 have A4:∀ g,(Ob.Tk.above w1 g).cell? ⟨w.heap.size,4,none⟩=some (.int .i64 a.aw):=fun g=>((Ob.Tk.below_above w1 g).cell (p:=⟨w.heap.size,4,none⟩) (cell_lt y4)).trans y4
 have AK:∀ g,(Ob.Tk.above w1 g).cell? ⟨G.xp o,2,none⟩=some (.int .u8 x.x.k):=fun g=>((Ob.Tk.below_above w1 g).cell (p:=⟨G.xp o,2,none⟩) (cell_lt q2)).trans q2
 refine Ob.Tk.wp_region_calm (by kernel_rfl) (by kernel_rfl) ?_
 repeat (go_big_quiet_step (first |(go_at_call 100;exact Ob.Tk.calm_call (HFit.out _))))
 refine wpQuiet_nil ?_
 intro w2 b2
 have B2:Hid (Below (w.heap.size+1) (w.alloc (.cells (aqC a) 38)) w2):=B1.out.trans (b2.mono (by have:=B1.out.size;rw [show(w.alloc (.cells (aqC a) 38)).heap.size=w.heap.size+1 from alloc_size w _] at this;exact this))
 obtain⟨z0,z1,z2,z3,z4⟩:=asked_cells B2.out
 clear b2 A0 A1 A2 A3 A4 AK
 go_wp2_with (go_at_call 124;refine(HBl.out _).mono ?_;rintro e w3 ⟨rfl,b3⟩;have B3:Hid (Below (w.heap.size+1) (w.alloc (.cells (aqC a) 38)) w3):=B2.out.trans (b3.mono (by have:=B2.out.size;rw [show(w.alloc (.cells (aqC a) 38)).heap.size=w.heap.size+1 from alloc_size w _] at this;exact this));obtain⟨v0,v1,v2,v3,v4⟩:=asked_cells B3.out;clear b3)
 go_ret2
 exact⟨rfl,(alloc_below w _).trans (B3.out.mono (Nat.le_succ _))⟩
theorem asked_a3(h:St o0 w0 G w k)(hG:Shown G)(a:Aq)(hah:a.ah<=4294967295)(he:Hd.placeE k.oh a.ah=0){x:Th}(hx:k.os (Hd.placeP k.oh a.ah)=some x)(hkd:0<=x.x.k/\x.x.k<=255)(hf:Ob.Tk.fitB a.wh x.x.k=true)(h11:a.wh=11)(h3:¬ 3 < a.am)(hk:Ob.Tk.blkB a.wh a.aw=true)(hm:1073741824 < a.aw):Calls Tryz.prog 163 #[.pointer (some ⟨G.kp,0,none⟩),aqV a] w fun e w'=>e=.returned (.tuple #[.pointer none,.int .i64 4])/\Below w.heap.size w w':=by
 have hb:=alloc_below w (.cells (aqC a) 38)
 have h1:=h.below hb
 obtain⟨c0,c1,c2,c3,c4⟩:=asked_cells (w:=w) (a:=a) (Below.refl _ _)
 have HF:Hid (Calls Tryz.prog 50 #[.pointer (some ⟨G.kp,4,none⟩),.int .u32 (a.ah:Nat)] (w.alloc (.cells (aqC a) 38)).drew _):=findX h1.drew hG a.ah hah he hx
 have HB:Hid (Below w.heap.size w (w.alloc (.cells (aqC a) 38)).drew/\(w.alloc (.cells (aqC a) 38)).drew.heap.size=w.heap.size+1):=⟨hb.trans ((below_drewN _ 1).mono hb.size),alloc_size w _⟩
 have HBx:Hid (Below (w.heap.size+1) (w.alloc (.cells (aqC a) 38)) (w.alloc (.cells (aqC a) 38)).drew):=(below_drewN (w.alloc (.cells (aqC a) 38)) 1).mono (by rw [alloc_size];exact Nat.le_refl _)
 have HX:Hid (k.os (Hd.placeP k.oh a.ah)=some x):=hx
 have HFit:Hid (∀ wx,Calls Tryz.prog 100 #[aqV a,.int .u8 x.x.k] wx fun e w'=>e=.returned (.bool true)/\Below wx.heap.size wx w'):=fun wx=>hf ▸ Ob.Tk.fits_any a.wh a.ah a.av a.am a.aw x.x.k hkd wx
 have HBl:Hid (∀ wx,Calls Tryz.prog 124 #[aqV a] wx fun e w'=>e=.returned (.bool true)/\Below wx.heap.size wx w'):=fun wx=>hk ▸ blocks_any a wx
 have h11b:(a.wh == 11)=true:=(by simpa using h11);have h3b:¬ (3:Int) < (a.am:Int):=(by omega);clear h11 h3
 clear h h1 he hx hf hk
 generalize Hd.placeP k.oh a.ah=o at *
 go_enter Tryz.func163,Tryz.ntmps163
 go_wp2
 go_region_held3 (fun w'=>w'.cell? ⟨w.heap.size,1,none⟩=some (.int .u32 (a.ah:Nat))) (go_keep) (first
  |(go_at_call 50;refine HF.out.mono ?_;rintro e w1 ⟨rfl,h1,b1⟩;have B1:Hid (Below (w.heap.size+1) (w.alloc (.cells (aqC a) 38)) w1):=HBx.out.trans (b1.mono (by rw [HB.out.2];exact Nat.le_refl _));obtain⟨y0,y1,y2,y3,y4⟩:=asked_cells B1.out;have q2:=h1.e2 HX.out;clear h1 b1)
  | fail)
 go_wp2
 have A0:∀ g,(Ob.Tk.above w1 g).cell? ⟨w.heap.size,0,none⟩=some (.int .u8 a.wh):=fun g=>((Ob.Tk.below_above w1 g).cell (p:=⟨w.heap.size,0,none⟩) (cell_lt y0)).trans y0
 have A1:∀ g,(Ob.Tk.above w1 g).cell? ⟨w.heap.size,1,none⟩=some (.int .u32 (a.ah:Nat)):=fun g=>((Ob.Tk.below_above w1 g).cell (p:=⟨w.heap.size,1,none⟩) (cell_lt y1)).trans y1
 have A2:∀ g,(Ob.Tk.above w1 g).cell? ⟨w.heap.size,2,none⟩=some (.int .u32 (a.av:Nat)):=fun g=>((Ob.Tk.below_above w1 g).cell (p:=⟨w.heap.size,2,none⟩) (cell_lt y2)).trans y2
 have A3:∀ g,(Ob.Tk.above w1 g).cell? ⟨w.heap.size,3,none⟩=some (.int .u32 (a.am:Nat)):=fun g=>((Ob.Tk.below_above w1 g).cell (p:=⟨w.heap.size,3,none⟩) (cell_lt y3)).trans y3
 have A4:∀ g,(Ob.Tk.above w1 g).cell? ⟨w.heap.size,4,none⟩=some (.int .i64 a.aw):=fun g=>((Ob.Tk.below_above w1 g).cell (p:=⟨w.heap.size,4,none⟩) (cell_lt y4)).trans y4
 have AK:∀ g,(Ob.Tk.above w1 g).cell? ⟨G.xp o,2,none⟩=some (.int .u8 x.x.k):=fun g=>((Ob.Tk.below_above w1 g).cell (p:=⟨G.xp o,2,none⟩) (cell_lt q2)).trans q2
 refine Ob.Tk.wp_region_calm (by kernel_rfl) (by kernel_rfl) ?_
 repeat (go_big_quiet_step (first |(go_at_call 100;exact Ob.Tk.calm_call (HFit.out _))))
 refine wpQuiet_nil ?_
 intro w2 b2
 have B2:Hid (Below (w.heap.size+1) (w.alloc (.cells (aqC a) 38)) w2):=B1.out.trans (b2.mono (by have:=B1.out.size;rw [show(w.alloc (.cells (aqC a) 38)).heap.size=w.heap.size+1 from alloc_size w _] at this;exact this))
 obtain⟨z0,z1,z2,z3,z4⟩:=asked_cells B2.out
 clear b2 A0 A1 A2 A3 A4 AK
 go_wp2_with (go_at_call 124;refine(HBl.out _).mono ?_;rintro e w3 ⟨rfl,b3⟩;have B3:Hid (Below (w.heap.size+1) (w.alloc (.cells (aqC a) 38)) w3):=B2.out.trans (b3.mono (by have:=B2.out.size;rw [show(w.alloc (.cells (aqC a) 38)).heap.size=w.heap.size+1 from alloc_size w _] at this;exact this));obtain⟨v0,v1,v2,v3,v4⟩:=asked_cells B3.out;clear b3)
 go_ret2
 exact⟨rfl,(alloc_below w _).trans (B3.out.mono (Nat.le_succ _))⟩
theorem asked_a4(h:St o0 w0 G w k)(hG:Shown G)(a:Aq)(hah:a.ah<=4294967295)(he:Hd.placeE k.oh a.ah=0){x:Th}(hx:k.os (Hd.placeP k.oh a.ah)=some x)(hkd:0<=x.x.k/\x.x.k<=255)(hf:Ob.Tk.fitB a.wh x.x.k=true)(h11:a.wh=11)(h3:¬ 3 < a.am)(hk:Ob.Tk.blkB a.wh a.aw=true)(hm:¬ 1073741824 < a.aw):Calls Tryz.prog 163 #[.pointer (some ⟨G.kp,0,none⟩),aqV a] w fun e w'=>e=.returned (.tuple #[.pointer (some ⟨G.xp (Hd.placeP k.oh a.ah),0,none⟩),.int .i64 0])/\Below w.heap.size w w':=by
 have hb:=alloc_below w (.cells (aqC a) 38)
 have h1:=h.below hb
 obtain⟨c0,c1,c2,c3,c4⟩:=asked_cells (w:=w) (a:=a) (Below.refl _ _)
 have HF:Hid (Calls Tryz.prog 50 #[.pointer (some ⟨G.kp,4,none⟩),.int .u32 (a.ah:Nat)] (w.alloc (.cells (aqC a) 38)).drew _):=findX h1.drew hG a.ah hah he hx
 have HB:Hid (Below w.heap.size w (w.alloc (.cells (aqC a) 38)).drew/\(w.alloc (.cells (aqC a) 38)).drew.heap.size=w.heap.size+1):=⟨hb.trans ((below_drewN _ 1).mono hb.size),alloc_size w _⟩
 have HBx:Hid (Below (w.heap.size+1) (w.alloc (.cells (aqC a) 38)) (w.alloc (.cells (aqC a) 38)).drew):=(below_drewN (w.alloc (.cells (aqC a) 38)) 1).mono (by rw [alloc_size];exact Nat.le_refl _)
 have HX:Hid (k.os (Hd.placeP k.oh a.ah)=some x):=hx
 have HFit:Hid (∀ wx,Calls Tryz.prog 100 #[aqV a,.int .u8 x.x.k] wx fun e w'=>e=.returned (.bool true)/\Below wx.heap.size wx w'):=fun wx=>hf ▸ Ob.Tk.fits_any a.wh a.ah a.av a.am a.aw x.x.k hkd wx
 have HBl:Hid (∀ wx,Calls Tryz.prog 124 #[aqV a] wx fun e w'=>e=.returned (.bool true)/\Below wx.heap.size wx w'):=fun wx=>hk ▸ blocks_any a wx
 have h11b:(a.wh == 11)=true:=(by simpa using h11);have h3b:¬ (3:Int) < (a.am:Int):=(by omega);clear h11 h3
 clear h h1 he hx hf hk
 generalize Hd.placeP k.oh a.ah=o at *
 go_enter Tryz.func163,Tryz.ntmps163
 go_wp2
 go_region_held3 (fun w'=>w'.cell? ⟨w.heap.size,1,none⟩=some (.int .u32 (a.ah:Nat))) (go_keep) (first
  |(go_at_call 50;refine HF.out.mono ?_;rintro e w1 ⟨rfl,h1,b1⟩;have B1:Hid (Below (w.heap.size+1) (w.alloc (.cells (aqC a) 38)) w1):=HBx.out.trans (b1.mono (by rw [HB.out.2];exact Nat.le_refl _));obtain⟨y0,y1,y2,y3,y4⟩:=asked_cells B1.out;have q2:=h1.e2 HX.out;clear h1 b1)
  | fail)
 go_wp2
 have A0:∀ g,(Ob.Tk.above w1 g).cell? ⟨w.heap.size,0,none⟩=some (.int .u8 a.wh):=fun g=>((Ob.Tk.below_above w1 g).cell (p:=⟨w.heap.size,0,none⟩) (cell_lt y0)).trans y0
 have A1:∀ g,(Ob.Tk.above w1 g).cell? ⟨w.heap.size,1,none⟩=some (.int .u32 (a.ah:Nat)):=fun g=>((Ob.Tk.below_above w1 g).cell (p:=⟨w.heap.size,1,none⟩) (cell_lt y1)).trans y1
 have A2:∀ g,(Ob.Tk.above w1 g).cell? ⟨w.heap.size,2,none⟩=some (.int .u32 (a.av:Nat)):=fun g=>((Ob.Tk.below_above w1 g).cell (p:=⟨w.heap.size,2,none⟩) (cell_lt y2)).trans y2
 have A3:∀ g,(Ob.Tk.above w1 g).cell? ⟨w.heap.size,3,none⟩=some (.int .u32 (a.am:Nat)):=fun g=>((Ob.Tk.below_above w1 g).cell (p:=⟨w.heap.size,3,none⟩) (cell_lt y3)).trans y3
 have A4:∀ g,(Ob.Tk.above w1 g).cell? ⟨w.heap.size,4,none⟩=some (.int .i64 a.aw):=fun g=>((Ob.Tk.below_above w1 g).cell (p:=⟨w.heap.size,4,none⟩) (cell_lt y4)).trans y4
 have AK:∀ g,(Ob.Tk.above w1 g).cell? ⟨G.xp o,2,none⟩=some (.int .u8 x.x.k):=fun g=>((Ob.Tk.below_above w1 g).cell (p:=⟨G.xp o,2,none⟩) (cell_lt q2)).trans q2
 refine Ob.Tk.wp_region_calm (by kernel_rfl) (by kernel_rfl) ?_
 repeat (go_big_quiet_step (first |(go_at_call 100;exact Ob.Tk.calm_call (HFit.out _))))
 refine wpQuiet_nil ?_
 intro w2 b2
 have B2:Hid (Below (w.heap.size+1) (w.alloc (.cells (aqC a) 38)) w2):=B1.out.trans (b2.mono (by have:=B1.out.size;rw [show(w.alloc (.cells (aqC a) 38)).heap.size=w.heap.size+1 from alloc_size w _] at this;exact this))
 obtain⟨z0,z1,z2,z3,z4⟩:=asked_cells B2.out
 clear b2 A0 A1 A2 A3 A4 AK
 go_wp2_with (go_at_call 124;refine(HBl.out _).mono ?_;rintro e w3 ⟨rfl,b3⟩;have B3:Hid (Below (w.heap.size+1) (w.alloc (.cells (aqC a) 38)) w3):=B2.out.trans (b3.mono (by have:=B2.out.size;rw [show(w.alloc (.cells (aqC a) 38)).heap.size=w.heap.size+1 from alloc_size w _] at this;exact this));obtain⟨v0,v1,v2,v3,v4⟩:=asked_cells B3.out;clear b3)
 go_ret2
 exact⟨rfl,(alloc_below w _).trans (B3.out.mono (Nat.le_succ _))⟩
theorem asked_a5(h:St o0 w0 G w k)(hG:Shown G)(a:Aq)(hah:a.ah<=4294967295)(he:Hd.placeE k.oh a.ah=0){x:Th}(hx:k.os (Hd.placeP k.oh a.ah)=some x)(hkd:0<=x.x.k/\x.x.k<=255)(hf:Ob.Tk.fitB a.wh x.x.k=true)(h11:¬ a.wh=11)(hk:Ob.Tk.blkB a.wh a.aw=false):Calls Tryz.prog 163 #[.pointer (some ⟨G.kp,0,none⟩),aqV a] w fun e w'=>e=.returned (.tuple #[.pointer (some ⟨G.xp (Hd.placeP k.oh a.ah),0,none⟩),.int .i64 0])/\Below w.heap.size w w':=by
 have hb:=alloc_below w (.cells (aqC a) 38)
 have h1:=h.below hb
 obtain⟨c0,c1,c2,c3,c4⟩:=asked_cells (w:=w) (a:=a) (Below.refl _ _)
 have HF:Hid (Calls Tryz.prog 50 #[.pointer (some ⟨G.kp,4,none⟩),.int .u32 (a.ah:Nat)] (w.alloc (.cells (aqC a) 38)).drew _):=findX h1.drew hG a.ah hah he hx
 have HB:Hid (Below w.heap.size w (w.alloc (.cells (aqC a) 38)).drew/\(w.alloc (.cells (aqC a) 38)).drew.heap.size=w.heap.size+1):=⟨hb.trans ((below_drewN _ 1).mono hb.size),alloc_size w _⟩
 have HBx:Hid (Below (w.heap.size+1) (w.alloc (.cells (aqC a) 38)) (w.alloc (.cells (aqC a) 38)).drew):=(below_drewN (w.alloc (.cells (aqC a) 38)) 1).mono (by rw [alloc_size];exact Nat.le_refl _)
 have HX:Hid (k.os (Hd.placeP k.oh a.ah)=some x):=hx
 have HFit:Hid (∀ wx,Calls Tryz.prog 100 #[aqV a,.int .u8 x.x.k] wx fun e w'=>e=.returned (.bool true)/\Below wx.heap.size wx w'):=fun wx=>hf ▸ Ob.Tk.fits_any a.wh a.ah a.av a.am a.aw x.x.k hkd wx
 have HBl:Hid (∀ wx,Calls Tryz.prog 124 #[aqV a] wx fun e w'=>e=.returned (.bool false)/\Below wx.heap.size wx w'):=fun wx=>hk ▸ blocks_any a wx
 have h11b:(a.wh == 11)=false:=(by simpa using h11);clear h11
 clear h h1 he hx hf hk
 generalize Hd.placeP k.oh a.ah=o at *
 go_enter Tryz.func163,Tryz.ntmps163
 go_wp2
 go_region_held3 (fun w'=>w'.cell? ⟨w.heap.size,1,none⟩=some (.int .u32 (a.ah:Nat))) (go_keep) (first
  |(go_at_call 50;refine HF.out.mono ?_;rintro e w1 ⟨rfl,h1,b1⟩;have B1:Hid (Below (w.heap.size+1) (w.alloc (.cells (aqC a) 38)) w1):=HBx.out.trans (b1.mono (by rw [HB.out.2];exact Nat.le_refl _));obtain⟨y0,y1,y2,y3,y4⟩:=asked_cells B1.out;have q2:=h1.e2 HX.out;clear h1 b1)
  | fail)
 go_wp2
 have A0:∀ g,(Ob.Tk.above w1 g).cell? ⟨w.heap.size,0,none⟩=some (.int .u8 a.wh):=fun g=>((Ob.Tk.below_above w1 g).cell (p:=⟨w.heap.size,0,none⟩) (cell_lt y0)).trans y0
 have A1:∀ g,(Ob.Tk.above w1 g).cell? ⟨w.heap.size,1,none⟩=some (.int .u32 (a.ah:Nat)):=fun g=>((Ob.Tk.below_above w1 g).cell (p:=⟨w.heap.size,1,none⟩) (cell_lt y1)).trans y1
 have A2:∀ g,(Ob.Tk.above w1 g).cell? ⟨w.heap.size,2,none⟩=some (.int .u32 (a.av:Nat)):=fun g=>((Ob.Tk.below_above w1 g).cell (p:=⟨w.heap.size,2,none⟩) (cell_lt y2)).trans y2
 have A3:∀ g,(Ob.Tk.above w1 g).cell? ⟨w.heap.size,3,none⟩=some (.int .u32 (a.am:Nat)):=fun g=>((Ob.Tk.below_above w1 g).cell (p:=⟨w.heap.size,3,none⟩) (cell_lt y3)).trans y3
 have A4:∀ g,(Ob.Tk.above w1 g).cell? ⟨w.heap.size,4,none⟩=some (.int .i64 a.aw):=fun g=>((Ob.Tk.below_above w1 g).cell (p:=⟨w.heap.size,4,none⟩) (cell_lt y4)).trans y4
 have AK:∀ g,(Ob.Tk.above w1 g).cell? ⟨G.xp o,2,none⟩=some (.int .u8 x.x.k):=fun g=>((Ob.Tk.below_above w1 g).cell (p:=⟨G.xp o,2,none⟩) (cell_lt q2)).trans q2
 refine Ob.Tk.wp_region_calm (by kernel_rfl) (by kernel_rfl) ?_
 repeat (go_big_quiet_step (first |(go_at_call 100;exact Ob.Tk.calm_call (HFit.out _))))
 refine wpQuiet_nil ?_
 intro w2 b2
 have B2:Hid (Below (w.heap.size+1) (w.alloc (.cells (aqC a) 38)) w2):=B1.out.trans (b2.mono (by have:=B1.out.size;rw [show(w.alloc (.cells (aqC a) 38)).heap.size=w.heap.size+1 from alloc_size w _] at this;exact this))
 obtain⟨z0,z1,z2,z3,z4⟩:=asked_cells B2.out
 clear b2 A0 A1 A2 A3 A4 AK
 go_wp2_with (go_at_call 124;refine(HBl.out _).mono ?_;rintro e w3 ⟨rfl,b3⟩;have B3:Hid (Below (w.heap.size+1) (w.alloc (.cells (aqC a) 38)) w3):=B2.out.trans (b3.mono (by have:=B2.out.size;rw [show(w.alloc (.cells (aqC a) 38)).heap.size=w.heap.size+1 from alloc_size w _] at this;exact this));obtain⟨v0,v1,v2,v3,v4⟩:=asked_cells B3.out;clear b3)
 go_ret2
 exact⟨rfl,(alloc_below w _).trans (B3.out.mono (Nat.le_succ _))⟩
theorem asked_a6(h:St o0 w0 G w k)(hG:Shown G)(a:Aq)(hah:a.ah<=4294967295)(he:Hd.placeE k.oh a.ah=0){x:Th}(hx:k.os (Hd.placeP k.oh a.ah)=some x)(hkd:0<=x.x.k/\x.x.k<=255)(hf:Ob.Tk.fitB a.wh x.x.k=true)(h11:¬ a.wh=11)(hk:Ob.Tk.blkB a.wh a.aw=true)(hm:1073741824 < a.aw):Calls Tryz.prog 163 #[.pointer (some ⟨G.kp,0,none⟩),aqV a] w fun e w'=>e=.returned (.tuple #[.pointer none,.int .i64 4])/\Below w.heap.size w w':=by
 have hb:=alloc_below w (.cells (aqC a) 38)
 have h1:=h.below hb
 obtain⟨c0,c1,c2,c3,c4⟩:=asked_cells (w:=w) (a:=a) (Below.refl _ _)
 have HF:Hid (Calls Tryz.prog 50 #[.pointer (some ⟨G.kp,4,none⟩),.int .u32 (a.ah:Nat)] (w.alloc (.cells (aqC a) 38)).drew _):=findX h1.drew hG a.ah hah he hx
 have HB:Hid (Below w.heap.size w (w.alloc (.cells (aqC a) 38)).drew/\(w.alloc (.cells (aqC a) 38)).drew.heap.size=w.heap.size+1):=⟨hb.trans ((below_drewN _ 1).mono hb.size),alloc_size w _⟩
 have HBx:Hid (Below (w.heap.size+1) (w.alloc (.cells (aqC a) 38)) (w.alloc (.cells (aqC a) 38)).drew):=(below_drewN (w.alloc (.cells (aqC a) 38)) 1).mono (by rw [alloc_size];exact Nat.le_refl _)
 have HX:Hid (k.os (Hd.placeP k.oh a.ah)=some x):=hx
 have HFit:Hid (∀ wx,Calls Tryz.prog 100 #[aqV a,.int .u8 x.x.k] wx fun e w'=>e=.returned (.bool true)/\Below wx.heap.size wx w'):=fun wx=>hf ▸ Ob.Tk.fits_any a.wh a.ah a.av a.am a.aw x.x.k hkd wx
 have HBl:Hid (∀ wx,Calls Tryz.prog 124 #[aqV a] wx fun e w'=>e=.returned (.bool true)/\Below wx.heap.size wx w'):=fun wx=>hk ▸ blocks_any a wx
 have h11b:(a.wh == 11)=false:=(by simpa using h11);clear h11
 clear h h1 he hx hf hk
 generalize Hd.placeP k.oh a.ah=o at *
 go_enter Tryz.func163,Tryz.ntmps163
 go_wp2
 go_region_held3 (fun w'=>w'.cell? ⟨w.heap.size,1,none⟩=some (.int .u32 (a.ah:Nat))) (go_keep) (first
  |(go_at_call 50;refine HF.out.mono ?_;rintro e w1 ⟨rfl,h1,b1⟩;have B1:Hid (Below (w.heap.size+1) (w.alloc (.cells (aqC a) 38)) w1):=HBx.out.trans (b1.mono (by rw [HB.out.2];exact Nat.le_refl _));obtain⟨y0,y1,y2,y3,y4⟩:=asked_cells B1.out;have q2:=h1.e2 HX.out;clear h1 b1)
  | fail)
 go_wp2
 have A0:∀ g,(Ob.Tk.above w1 g).cell? ⟨w.heap.size,0,none⟩=some (.int .u8 a.wh):=fun g=>((Ob.Tk.below_above w1 g).cell (p:=⟨w.heap.size,0,none⟩) (cell_lt y0)).trans y0
 have A1:∀ g,(Ob.Tk.above w1 g).cell? ⟨w.heap.size,1,none⟩=some (.int .u32 (a.ah:Nat)):=fun g=>((Ob.Tk.below_above w1 g).cell (p:=⟨w.heap.size,1,none⟩) (cell_lt y1)).trans y1
 have A2:∀ g,(Ob.Tk.above w1 g).cell? ⟨w.heap.size,2,none⟩=some (.int .u32 (a.av:Nat)):=fun g=>((Ob.Tk.below_above w1 g).cell (p:=⟨w.heap.size,2,none⟩) (cell_lt y2)).trans y2
 have A3:∀ g,(Ob.Tk.above w1 g).cell? ⟨w.heap.size,3,none⟩=some (.int .u32 (a.am:Nat)):=fun g=>((Ob.Tk.below_above w1 g).cell (p:=⟨w.heap.size,3,none⟩) (cell_lt y3)).trans y3
 have A4:∀ g,(Ob.Tk.above w1 g).cell? ⟨w.heap.size,4,none⟩=some (.int .i64 a.aw):=fun g=>((Ob.Tk.below_above w1 g).cell (p:=⟨w.heap.size,4,none⟩) (cell_lt y4)).trans y4
 have AK:∀ g,(Ob.Tk.above w1 g).cell? ⟨G.xp o,2,none⟩=some (.int .u8 x.x.k):=fun g=>((Ob.Tk.below_above w1 g).cell (p:=⟨G.xp o,2,none⟩) (cell_lt q2)).trans q2
 refine Ob.Tk.wp_region_calm (by kernel_rfl) (by kernel_rfl) ?_
 repeat (go_big_quiet_step (first |(go_at_call 100;exact Ob.Tk.calm_call (HFit.out _))))
 refine wpQuiet_nil ?_
 intro w2 b2
 have B2:Hid (Below (w.heap.size+1) (w.alloc (.cells (aqC a) 38)) w2):=B1.out.trans (b2.mono (by have:=B1.out.size;rw [show(w.alloc (.cells (aqC a) 38)).heap.size=w.heap.size+1 from alloc_size w _] at this;exact this))
 obtain⟨z0,z1,z2,z3,z4⟩:=asked_cells B2.out
 clear b2 A0 A1 A2 A3 A4 AK
 go_wp2_with (go_at_call 124;refine(HBl.out _).mono ?_;rintro e w3 ⟨rfl,b3⟩;have B3:Hid (Below (w.heap.size+1) (w.alloc (.cells (aqC a) 38)) w3):=B2.out.trans (b3.mono (by have:=B2.out.size;rw [show(w.alloc (.cells (aqC a) 38)).heap.size=w.heap.size+1 from alloc_size w _] at this;exact this));obtain⟨v0,v1,v2,v3,v4⟩:=asked_cells B3.out;clear b3)
 go_ret2
 exact⟨rfl,(alloc_below w _).trans (B3.out.mono (Nat.le_succ _))⟩
theorem asked_a7(h:St o0 w0 G w k)(hG:Shown G)(a:Aq)(hah:a.ah<=4294967295)(he:Hd.placeE k.oh a.ah=0){x:Th}(hx:k.os (Hd.placeP k.oh a.ah)=some x)(hkd:0<=x.x.k/\x.x.k<=255)(hf:Ob.Tk.fitB a.wh x.x.k=true)(h11:¬ a.wh=11)(hk:Ob.Tk.blkB a.wh a.aw=true)(hm:¬ 1073741824 < a.aw):Calls Tryz.prog 163 #[.pointer (some ⟨G.kp,0,none⟩),aqV a] w fun e w'=>e=.returned (.tuple #[.pointer (some ⟨G.xp (Hd.placeP k.oh a.ah),0,none⟩),.int .i64 0])/\Below w.heap.size w w':=by
 have hb:=alloc_below w (.cells (aqC a) 38)
 have h1:=h.below hb
 obtain⟨c0,c1,c2,c3,c4⟩:=asked_cells (w:=w) (a:=a) (Below.refl _ _)
 have HF:Hid (Calls Tryz.prog 50 #[.pointer (some ⟨G.kp,4,none⟩),.int .u32 (a.ah:Nat)] (w.alloc (.cells (aqC a) 38)).drew _):=findX h1.drew hG a.ah hah he hx
 have HB:Hid (Below w.heap.size w (w.alloc (.cells (aqC a) 38)).drew/\(w.alloc (.cells (aqC a) 38)).drew.heap.size=w.heap.size+1):=⟨hb.trans ((below_drewN _ 1).mono hb.size),alloc_size w _⟩
 have HBx:Hid (Below (w.heap.size+1) (w.alloc (.cells (aqC a) 38)) (w.alloc (.cells (aqC a) 38)).drew):=(below_drewN (w.alloc (.cells (aqC a) 38)) 1).mono (by rw [alloc_size];exact Nat.le_refl _)
 have HX:Hid (k.os (Hd.placeP k.oh a.ah)=some x):=hx
 have HFit:Hid (∀ wx,Calls Tryz.prog 100 #[aqV a,.int .u8 x.x.k] wx fun e w'=>e=.returned (.bool true)/\Below wx.heap.size wx w'):=fun wx=>hf ▸ Ob.Tk.fits_any a.wh a.ah a.av a.am a.aw x.x.k hkd wx
 have HBl:Hid (∀ wx,Calls Tryz.prog 124 #[aqV a] wx fun e w'=>e=.returned (.bool true)/\Below wx.heap.size wx w'):=fun wx=>hk ▸ blocks_any a wx
 have h11b:(a.wh == 11)=false:=(by simpa using h11);clear h11
 clear h h1 he hx hf hk
 generalize Hd.placeP k.oh a.ah=o at *
 go_enter Tryz.func163,Tryz.ntmps163
 go_wp2
 go_region_held3 (fun w'=>w'.cell? ⟨w.heap.size,1,none⟩=some (.int .u32 (a.ah:Nat))) (go_keep) (first
  |(go_at_call 50;refine HF.out.mono ?_;rintro e w1 ⟨rfl,h1,b1⟩;have B1:Hid (Below (w.heap.size+1) (w.alloc (.cells (aqC a) 38)) w1):=HBx.out.trans (b1.mono (by rw [HB.out.2];exact Nat.le_refl _));obtain⟨y0,y1,y2,y3,y4⟩:=asked_cells B1.out;have q2:=h1.e2 HX.out;clear h1 b1)
  | fail)
 go_wp2
 have A0:∀ g,(Ob.Tk.above w1 g).cell? ⟨w.heap.size,0,none⟩=some (.int .u8 a.wh):=fun g=>((Ob.Tk.below_above w1 g).cell (p:=⟨w.heap.size,0,none⟩) (cell_lt y0)).trans y0
 have A1:∀ g,(Ob.Tk.above w1 g).cell? ⟨w.heap.size,1,none⟩=some (.int .u32 (a.ah:Nat)):=fun g=>((Ob.Tk.below_above w1 g).cell (p:=⟨w.heap.size,1,none⟩) (cell_lt y1)).trans y1
 have A2:∀ g,(Ob.Tk.above w1 g).cell? ⟨w.heap.size,2,none⟩=some (.int .u32 (a.av:Nat)):=fun g=>((Ob.Tk.below_above w1 g).cell (p:=⟨w.heap.size,2,none⟩) (cell_lt y2)).trans y2
 have A3:∀ g,(Ob.Tk.above w1 g).cell? ⟨w.heap.size,3,none⟩=some (.int .u32 (a.am:Nat)):=fun g=>((Ob.Tk.below_above w1 g).cell (p:=⟨w.heap.size,3,none⟩) (cell_lt y3)).trans y3
 have A4:∀ g,(Ob.Tk.above w1 g).cell? ⟨w.heap.size,4,none⟩=some (.int .i64 a.aw):=fun g=>((Ob.Tk.below_above w1 g).cell (p:=⟨w.heap.size,4,none⟩) (cell_lt y4)).trans y4
 have AK:∀ g,(Ob.Tk.above w1 g).cell? ⟨G.xp o,2,none⟩=some (.int .u8 x.x.k):=fun g=>((Ob.Tk.below_above w1 g).cell (p:=⟨G.xp o,2,none⟩) (cell_lt q2)).trans q2
 refine Ob.Tk.wp_region_calm (by kernel_rfl) (by kernel_rfl) ?_
 repeat (go_big_quiet_step (first |(go_at_call 100;exact Ob.Tk.calm_call (HFit.out _))))
 refine wpQuiet_nil ?_
 intro w2 b2
 have B2:Hid (Below (w.heap.size+1) (w.alloc (.cells (aqC a) 38)) w2):=B1.out.trans (b2.mono (by have:=B1.out.size;rw [show(w.alloc (.cells (aqC a) 38)).heap.size=w.heap.size+1 from alloc_size w _] at this;exact this))
 obtain⟨z0,z1,z2,z3,z4⟩:=asked_cells B2.out
 clear b2 A0 A1 A2 A3 A4 AK
 go_wp2_with (go_at_call 124;refine(HBl.out _).mono ?_;rintro e w3 ⟨rfl,b3⟩;have B3:Hid (Below (w.heap.size+1) (w.alloc (.cells (aqC a) 38)) w3):=B2.out.trans (b3.mono (by have:=B2.out.size;rw [show(w.alloc (.cells (aqC a) 38)).heap.size=w.heap.size+1 from alloc_size w _] at this;exact this));obtain⟨v0,v1,v2,v3,v4⟩:=asked_cells B3.out;clear b3)
 go_ret2
 exact⟨rfl,(alloc_below w _).trans (B3.out.mono (Nat.le_succ _))⟩
end
end Go.Proofs.YtbbdndfibjdcfaaGreat
namespace Go.Proofs.YtbbdndfibjdcfaaGreat
open Go Go.RowKit
theorem Core.qfew{k:Kn}{g:Int}{D:Nat->Prop}(h:Core k g D){o:Nat}{x:Th}(hx:k.os o=some x):x.q.length<=16:=by
 have hk:=(h.qG o x hx).1
 rw [←List.length_map (f:=Prod.fst)]
 refine pigeon 16 _ hk.nd fun z hz=>?_
 obtain⟨y,hy,e⟩:=List.mem_map.1 hz
 obtain⟨i,t,e1,ht,_⟩:=(h.qT o x hx y).1 hy
 have:=(h.hT i t ht).1
 omega
open Classical in
/-- what becomes of one who asks for what is not there yet -/
noncomputable def nyR(k:Kn)(i:Nat)(t:Ta)(o:Nat)(a:Aq):Bool×Int×Kn :=
 if a.aw=0 then(true,if a.wh=7∨a.wh=8 then 10 else if a.wh=5 then 12 else 11,answer k i (if a.wh=7∨a.wh=8 then 10 else if a.wh=5 then 12 else 11) 0)
 else if Hr.Circ (whom k) (i:Int) (owner k o) then(true,7,answer k i 7 0) else(false,0,sleeps k i t (o:Int) a)
section
variable {o0:Nat->Nat} {w0 w w':World} {G:Geo} {k:Kn}
theorem ny0_any(h:St o0 w0 G w k){i:Nat}{t:Ta}(hr:Rn k i t){o:Nat}(a:Aq)(haw:a.aw=0):Calls Tryz.prog 164 #[.pointer (some ⟨G.kp,0,none⟩),.pointer (some ⟨G.tp i,0,none⟩),.pointer (some ⟨G.xp o,0,none⟩),aqV a] w fun e w'=>e=.returned (.tuple #[.bool (nyR k i t o a).1,.int .i64 (nyR k i t o a).2.1])/\St o0 w0 G w' (nyR k i t o a).2.2:=by
 have h1:=h.below (alloc_below w (.cells (aqC a) 38))
 obtain⟨c0,c1,c2,c3,c4⟩:=asked_cells (w:=w) (a:=a) (Below.refl _ _)
 obtain⟨er,her⟩:∃ er:Int,er=if a.wh=7∨a.wh=8 then 10 else if a.wh=5 then 12 else 11:=⟨_,rfl⟩
 have e1:nyR k i t o a=(true,er,answer k i er 0):=by unfold nyR;rw [if_pos haw,←her]
 rw [e1]
 have HF:=refusal_any a.wh (w.alloc (.cells (aqC a) 38))
 rw [←her] at HF
 have HR:=reply_any h1 hr er 0
 have hz':(a.aw == 0)=true:=by simpa using haw
 clear h h1 hr e1 haw her
 generalize answer k i er 0=k2 at *
 go_enter Tryz.func164,Tryz.ntmps164
 go_wp2_with (first
  |(go_at_call 191;refine HF.mono ?_;rintro e w1 ⟨rfl,rfl⟩)
  |(go_at_call 161;refine HR.mono ?_;rintro e w2 ⟨rfl,h2⟩;have S2:Hid (St o0 w0 G w2 k2):=h2;clear h2))
 go_ret2
 exact⟨rfl,S2.out⟩
theorem ny_circle(h:St o0 w0 G w k)(hc:Core k 0 NoD){o:Nat}{x:Th}(hx:k.os o=some x){i:Nat}{b:Bool}(hb:b=true↔Hr.Circ (whom k) (i:Int) (owner k o)) :
  (∀ wx,St o0 w0 G wx k->Calls Tryz.prog 94 #[.pointer (some ⟨G.kp,0,none⟩)] wx fun e w'=>∃ z,e=.returned (.slice (some ⟨z,0,none⟩) 16 16)/\Row w' z (whom k)/\Below wx.heap.size wx w') /\
  (∀ wx,St o0 w0 G wx k->Calls Tryz.prog 137 #[.pointer (some ⟨G.kp,0,none⟩),.pointer (some ⟨G.xp o,0,none⟩)] wx fun e w'=>e=.returned (.int .i64 (owner k o))/\Below wx.heap.size wx w') /\
  (∀ wx z,Row wx z (whom k)->Calls Tryz.prog 192 #[.slice (some ⟨z,0,none⟩) 16 16,.int .i64 (i:Nat),.int .i64 (owner k o)] wx fun e w'=>e=.returned (.bool b)/\Below wx.heap.size wx w'):=by
 have hn:=hc.nm (by omega)
 have hkd:=h.kd
 have hwl:(whom k).length=16:=by simp [whom]
 refine⟨fun wx hw=>(awaited_any hw hn).mono fun e w' ⟨z,he,_,hrow,hbl⟩=>⟨z,he,by rw [hc.awL (by omega) hkd] at hrow;exact hrow,hbl⟩,fun wx hw=>?_,fun wx z hz=>?_⟩
 ·have e:owner k o=ownC k x.x.o:=by
   unfold owner
   rw [hx]
   exact(hc.ownC (hn.own o x hx).1).symm
  rw [e]
  exact ownerOf_any hw hn hx
 ·have:=Hr.circle_is (w:=wx) (row_src hz) (by rw [hwl];omega) 16 hb
  rw [hwl] at this
  exact this
theorem ny1_any(h:St o0 w0 G w k){i:Nat}{t:Ta}(hr:Rn k i t){o:Nat}{x:Th}(hx:k.os o=some x)(a:Aq)(hav:a.av < 4294967296)(hmx:a.aw<=1073741824)(haw:¬ a.aw=0)(hC:Hr.Circ (whom k) (i:Int) (owner k o)):Calls Tryz.prog 164 #[.pointer (some ⟨G.kp,0,none⟩),.pointer (some ⟨G.tp i,0,none⟩),.pointer (some ⟨G.xp o,0,none⟩),aqV a] w fun e w'=>e=.returned (.tuple #[.bool (nyR k i t o a).1,.int .i64 (nyR k i t o a).2.1])/\St o0 w0 G w' (nyR k i t o a).2.2:=by
 have h1:=h.below (alloc_below w (.cells (aqC a) 38))
 obtain⟨c0,c1,c2,c3,c4⟩:=asked_cells (w:=w) (a:=a) (Below.refl _ _)
 obtain⟨hA,hO,hY⟩:=ny_circle (b:=true) h hr.core hx (i:=i) (by simp [hC])
 have e1:nyR k i t o a=(true,7,answer k i 7 0):=by unfold nyR;rw [if_neg haw,if_pos hC]
 rw [e1]
 have d14:=h1.d14 hr.ht
 have HA:Hid (Calls Tryz.prog 94 #[.pointer (some ⟨G.kp,0,none⟩)] (w.alloc (.cells (aqC a) 38)).drew fun e w'=>∃ z,e=.returned (.slice (some ⟨z,0,none⟩) 16 16)/\Row w' z (whom k)/\Below (w.alloc (.cells (aqC a) 38)).drew.heap.size (w.alloc (.cells (aqC a) 38)).drew w'):=hA _ h1.drew
 have HO:Hid (∀ wx,Below (w.alloc (.cells (aqC a) 38)).drew.heap.size (w.alloc (.cells (aqC a) 38)).drew wx->Calls Tryz.prog 137 #[.pointer (some ⟨G.kp,0,none⟩),.pointer (some ⟨G.xp o,0,none⟩)] wx fun e w'=>e=.returned (.int .i64 (owner k o))/\Below wx.heap.size wx w'):=fun wx hb=>hO wx (h1.drew.below hb)
 have HY:=(show Hid _ from hY)
 have HZ:Hid ((w.alloc (.cells (aqC a) 38)).drew.heap.size=w.heap.size+1/\Below (w.heap.size+1) (w.alloc (.cells (aqC a) 38)) (w.alloc (.cells (aqC a) 38)).drew):=⟨alloc_size w _,(below_drewN (w.alloc (.cells (aqC a) 38)) 1).mono (by rw [alloc_size];exact Nat.le_refl _)⟩
 have HR:Hid (∀ wx,Below (w.alloc (.cells (aqC a) 38)).drew.heap.size (w.alloc (.cells (aqC a) 38)).drew wx->Calls Tryz.prog 161 #[.pointer (some ⟨G.kp,0,none⟩),.pointer (some ⟨G.tp i,0,none⟩),.int .i64 7,.int .u32 0] wx fun e w'=>e=.returned (.tuple #[.bool true,.int .i64 7])/\St o0 w0 G w' (answer k i 7 0)):=fun wx hb=>reply_any (h1.drew.below hb) hr 7 0
 generalize answer k i 7 0=k2 at *
 have hz':(a.aw == 0)=false:=by simpa using haw
 clear h h1 hr hx hA hO hY hC e1 haw hav hmx
 generalize owner k o=ow at *
 go_enter Tryz.func164,Tryz.ntmps164
 go_wp2
 go_region_held3 (fun w'=>w'.cell? ⟨G.tp i,14,none⟩=some (.int .i64 (i:Nat))) (go_keep) (first
  |(go_at_call 94;refine HA.out.mono ?_;rintro e w1 ⟨z,rfl,hrow,b1⟩;have R1:Hid (Row w1 z (whom k)/\Below (w.alloc (.cells (aqC a) 38)).drew.heap.size (w.alloc (.cells (aqC a) 38)).drew w1):=⟨hrow,b1⟩;have y14:=(b1.cell (p:=⟨G.tp i,14,none⟩) (cell_lt d14)).trans d14;clear hrow b1)
  |(go_at_call 137;refine(HO.out _ R1.out.2).mono ?_;rintro e w2 ⟨rfl,b2⟩;have R2:Hid (Row w2 z (whom k)/\Below (w.alloc (.cells (aqC a) 38)).drew.heap.size (w.alloc (.cells (aqC a) 38)).drew w2):=⟨(b2.block _ (at_lt R1.out.1)).trans R1.out.1,R1.out.2.trans (b2.mono R1.out.2.size)⟩;have z14:=(b2.cell (p:=⟨G.tp i,14,none⟩) (cell_lt y14)).trans y14;clear b2)
  |(go_at_call 192;refine(HY.out _ _ R2.out.1).mono ?_;rintro e w3 ⟨rfl,b3⟩;have R3:Hid (Below (w.alloc (.cells (aqC a) 38)).drew.heap.size (w.alloc (.cells (aqC a) 38)).drew w3):=R2.out.2.trans (b3.mono R2.out.2.size);have u14:=(b3.cell (p:=⟨G.tp i,14,none⟩) (cell_lt z14)).trans z14;clear b3)
  | fail)
 obtain⟨v0,v1,v2,v3,v4⟩:=asked_cells (w:=w) (a:=a) (wx:=w3) (HZ.out.2.trans (by have:=R3.out;rw [HZ.out.1] at this;exact this))
 go_wp2_with (go_at_call 161;refine(HR.out _ R3.out).mono ?_;rintro e w5 ⟨rfl,h5⟩;have S5:Hid (St o0 w0 G w5 k2):=h5;clear h5)
 go_ret2
 exact⟨rfl,S5.out⟩
theorem ny2_any(h:St o0 w0 G w k){i:Nat}{t:Ta}(hr:Rn k i t){o:Nat}{x:Th}(hx:k.os o=some x)(a:Aq)(hav:a.av < 4294967296)(hmx:a.aw<=1073741824)(haw:¬ a.aw=0)(hC:¬ Hr.Circ (whom k) (i:Int) (owner k o)):Calls Tryz.prog 164 #[.pointer (some ⟨G.kp,0,none⟩),.pointer (some ⟨G.tp i,0,none⟩),.pointer (some ⟨G.xp o,0,none⟩),aqV a] w fun e w'=>e=.returned (.tuple #[.bool (nyR k i t o a).1,.int .i64 (nyR k i t o a).2.1])/\St o0 w0 G w' (nyR k i t o a).2.2:=by
 have h1:=h.below (alloc_below w (.cells (aqC a) 38))
 obtain⟨c0,c1,c2,c3,c4⟩:=asked_cells (w:=w) (a:=a) (Below.refl _ _)
 obtain⟨hA,hO,hY⟩:=ny_circle (b:=false) h hr.core hx (i:=i) (by simp [hC])
 have e1:nyR k i t o a=(false,0,sleeps k i t (o:Int) a):=by unfold nyR;rw [if_neg haw,if_neg hC]
 rw [e1]
 have d14:=h1.d14 hr.ht
 have HA:Hid (Calls Tryz.prog 94 #[.pointer (some ⟨G.kp,0,none⟩)] (w.alloc (.cells (aqC a) 38)).drew fun e w'=>∃ z,e=.returned (.slice (some ⟨z,0,none⟩) 16 16)/\Row w' z (whom k)/\Below (w.alloc (.cells (aqC a) 38)).drew.heap.size (w.alloc (.cells (aqC a) 38)).drew w'):=hA _ h1.drew
 have HO:Hid (∀ wx,Below (w.alloc (.cells (aqC a) 38)).drew.heap.size (w.alloc (.cells (aqC a) 38)).drew wx->Calls Tryz.prog 137 #[.pointer (some ⟨G.kp,0,none⟩),.pointer (some ⟨G.xp o,0,none⟩)] wx fun e w'=>e=.returned (.int .i64 (owner k o))/\Below wx.heap.size wx w'):=fun wx hb=>hO wx (h1.drew.below hb)
 have HY:=(show Hid _ from hY)
 have HZ:Hid ((w.alloc (.cells (aqC a) 38)).drew.heap.size=w.heap.size+1/\Below (w.heap.size+1) (w.alloc (.cells (aqC a) 38)) (w.alloc (.cells (aqC a) 38)).drew):=⟨alloc_size w _,(below_drewN (w.alloc (.cells (aqC a) 38)) 1).mono (by rw [alloc_size];exact Nat.le_refl _)⟩
 have HR:Hid (∀ wx,Below (w.alloc (.cells (aqC a) 38)).drew.heap.size (w.alloc (.cells (aqC a) 38)).drew wx->Calls Tryz.prog 162 #[.pointer (some ⟨G.kp,0,none⟩),.pointer (some ⟨G.tp i,0,none⟩),.pointer (some ⟨G.xp o,0,none⟩),aqV a] wx fun e w'=>e=.returned (.tuple #[])/\St o0 w0 G w' (sleeps k i t (o:Int) a)):=fun wx hb=>by
  by_cases hp:a.aw < 0
  ·exact wait2_any (h1.drew.below hb) hr a hav hp hx (by have:=hr.core.qfew hx;omega)
  ·exact wait1_any (h1.drew.below hb) hr a hav ⟨by omega,hmx⟩ hx (by have:=hr.core.qfew hx;omega)
 generalize sleeps k i t (o:Int) a=k2 at *
 have hz':(a.aw == 0)=false:=by simpa using haw
 clear h h1 hr hx hA hO hY hC e1 haw hav hmx
 generalize owner k o=ow at *
 go_enter Tryz.func164,Tryz.ntmps164
 go_wp2
 go_region_held3 (fun w'=>w'.cell? ⟨G.tp i,14,none⟩=some (.int .i64 (i:Nat))) (go_keep) (first
  |(go_at_call 94;refine HA.out.mono ?_;rintro e w1 ⟨z,rfl,hrow,b1⟩;have R1:Hid (Row w1 z (whom k)/\Below (w.alloc (.cells (aqC a) 38)).drew.heap.size (w.alloc (.cells (aqC a) 38)).drew w1):=⟨hrow,b1⟩;have y14:=(b1.cell (p:=⟨G.tp i,14,none⟩) (cell_lt d14)).trans d14;clear hrow b1)
  |(go_at_call 137;refine(HO.out _ R1.out.2).mono ?_;rintro e w2 ⟨rfl,b2⟩;have R2:Hid (Row w2 z (whom k)/\Below (w.alloc (.cells (aqC a) 38)).drew.heap.size (w.alloc (.cells (aqC a) 38)).drew w2):=⟨(b2.block _ (at_lt R1.out.1)).trans R1.out.1,R1.out.2.trans (b2.mono R1.out.2.size)⟩;have z14:=(b2.cell (p:=⟨G.tp i,14,none⟩) (cell_lt y14)).trans y14;clear b2)
  |(go_at_call 192;refine(HY.out _ _ R2.out.1).mono ?_;rintro e w3 ⟨rfl,b3⟩;have R3:Hid (Below (w.alloc (.cells (aqC a) 38)).drew.heap.size (w.alloc (.cells (aqC a) 38)).drew w3):=R2.out.2.trans (b3.mono R2.out.2.size);have u14:=(b3.cell (p:=⟨G.tp i,14,none⟩) (cell_lt z14)).trans z14;clear b3)
  | fail)
 obtain⟨v0,v1,v2,v3,v4⟩:=asked_cells (w:=w) (a:=a) (wx:=w3) (HZ.out.2.trans (by have:=R3.out;rw [HZ.out.1] at this;exact this))
 go_wp2_with (go_at_call 162;refine(HR.out _ R3.out).mono ?_;rintro e w5 ⟨rfl,h5⟩;have S5:Hid (St o0 w0 G w5 k2):=h5;clear h5)
 go_ret2
 exact⟨rfl,S5.out⟩
end
end Go.Proofs.YtbbdndfibjdcfaaGreat
namespace Go.Proofs.YtbbdndfibjdcfaaGreat
open Go Go.RowKit
theorem St.kind{o0:Nat->Nat}{w0 w:World}{G:Geo}{k:Kn}(h:St o0 w0 G w k){o:Nat}{x:Th}(hx:k.os o=some x):1<=x.x.k/\x.x.k<=6:=by
 obtain⟨own,h,y⟩:=h
 exact(h.obj o x hx (by omega)).2.kind
section
variable {o0:Nat->Nat} {w0 w w':World} {G:Geo} {k:Kn}
def askP(G:Geo)(k:Kn)(a:Aq)(e:Int):Value:=if e=0 then .pointer (some ⟨G.xp (Hd.placeP k.oh a.ah),0,none⟩) else .pointer none
theorem asked_all(h:St o0 w0 G w k)(hG:Shown G)(hc:Core k 0 NoD)(a:Aq)(hah:a.ah<=4294967295):Calls Tryz.prog 163 #[.pointer (some ⟨G.kp,0,none⟩),aqV a] w fun e w'=>e=.returned (.tuple #[askP G k a (askE k a),.int .i64 (askE k a)])/\Below w.heap.size w w':=by
 by_cases he:Hd.placeE k.oh a.ah=0
 ·obtain⟨x,hx,_⟩:=hc.thing_at he
  have hk:=h.kind hx
  have e0:askE k a=if Ob.Tk.fitB a.wh x.x.k=false∨(a.wh=11/\3 < a.am) then 1 else if Ob.Tk.blkB a.wh a.aw=true/\1073741824 < a.aw then 4 else 0:=by
   unfold askE
   rw [if_neg (by simpa using he),hx]
  cases hf:Ob.Tk.fitB a.wh x.x.k with
  | false =>
   have e1:askE k a=1:=by rw [e0,hf];simp
   rw [e1]
   exact asked_a0 h hG a hah he hx (by omega) hf
  | true =>
   by_cases h11:a.wh=11
   ·by_cases h3:3 < a.am
    ·have e1:askE k a=1:=by rw [e0,if_pos (Or.inr ⟨h11,h3⟩)]
     rw [e1]
     exact asked_a1 h hG a hah he hx (by omega) hf h11 h3
    ·have hn:¬ (Ob.Tk.fitB a.wh x.x.k=false∨(a.wh=11/\3 < a.am)):=by rw [hf];simp;omega
     rw [if_neg hn] at e0
     cases hk2:Ob.Tk.blkB a.wh a.aw with
     | false =>
      have e1:askE k a=0:=by rw [e0,hk2];simp
      rw [e1]
      exact asked_a2 h hG a hah he hx (by omega) hf h11 h3 hk2
     | true =>
      by_cases hm:1073741824 < a.aw
      ·have e1:askE k a=4:=by rw [e0,if_pos ⟨hk2,hm⟩]
       rw [e1]
       exact asked_a3 h hG a hah he hx (by omega) hf h11 h3 hk2 hm
      ·have e1:askE k a=0:=by rw [e0,if_neg (fun c=>hm c.2)]
       rw [e1]
       exact asked_a4 h hG a hah he hx (by omega) hf h11 h3 hk2 hm
   ·have hn:¬ (Ob.Tk.fitB a.wh x.x.k=false∨(a.wh=11/\3 < a.am)):=by rw [hf];simp;omega
    rw [if_neg hn] at e0
    cases hk2:Ob.Tk.blkB a.wh a.aw with
    | false =>
     have e1:askE k a=0:=by rw [e0,hk2];simp
     rw [e1]
     exact asked_a5 h hG a hah he hx (by omega) hf h11 hk2
    | true =>
     by_cases hm:1073741824 < a.aw
     ·have e1:askE k a=4:=by rw [e0,if_pos ⟨hk2,hm⟩]
      rw [e1]
      exact asked_a6 h hG a hah he hx (by omega) hf h11 hk2 hm
     ·have e1:askE k a=0:=by rw [e0,if_neg (fun c=>hm c.2)]
      rw [e1]
      exact asked_a7 h hG a hah he hx (by omega) hf h11 hk2 hm
 ·have e1:askE k a=Hd.placeE k.oh a.ah:=by unfold askE;rw [if_pos he]
  rw [e1]
  unfold askP
  rw [if_neg he]
  exact asked_no h a hah he
theorem ask1_no{i:Nat}{t:Ta}{a:Aq}(hw:3<=a.wh/\a.wh<=15)(he:askE k a≠0):ask1 k i t a=(true,0,askE k a,k):=by
 unfold askE at he ⊢
 unfold ask1
 rw [if_neg (by omega),if_neg (by omega),if_neg (by omega),if_neg (by omega)]
 by_cases hp:Hd.placeE k.oh a.ah≠0
 ·rw [if_pos hp,if_pos hp]
 ·rw [if_neg hp] at he ⊢
  rw [if_neg hp]
  cases hx:k.os (Hd.placeP k.oh a.ah) with
  | none=>simp only [hx]
  | some x =>
   simp only [hx] at he ⊢
   by_cases c1:Ob.Tk.fitB a.wh x.x.k=false∨(a.wh=11/\3 < a.am)
   ·rw [if_pos c1,if_pos c1]
   ·rw [if_neg c1] at he ⊢
    rw [if_neg c1,if_neg (by omega),if_neg (by omega)]
    by_cases c2:Ob.Tk.blkB a.wh a.aw=true/\1073741824 < a.aw
    ·rw [if_pos c2,if_pos c2]
    ·rw [if_neg c2] at he;exact absurd rfl he
open Classical in
theorem ask1_at{i:Nat}{t:Ta}{a:Aq}(hw:3<=a.wh/\a.wh<=15)(he:askE k a=0)(hc:Core k 0 NoD):∃ x,Hd.placeE k.oh a.ah=0/\k.os (Hd.placeP k.oh a.ah)=some x/\Ob.Tk.fitB a.wh x.x.k=true/\(Ob.Tk.blkB a.wh a.aw=true->a.aw<=1073741824) /\
  ask1 k i t a=if(Ob.tA x.x t.h a.wh a.av a.am).2.1≠7 then(true,(Ob.tA x.x t.h a.wh a.av a.am).1,(Ob.tA x.x t.h a.wh a.av a.am).2.1,k.setO (Hd.placeP k.oh a.ah) { x with x:=(Ob.tA x.x t.h a.wh a.av a.am).2.2 }) else if a.aw=0 then(true,0,if a.wh=7∨a.wh=8 then 10 else if a.wh=5 then 12 else 11,k) else if a.wh=5/\Hr.Circ (whom k) (i:Int) (owner k (Hd.placeP k.oh a.ah)) then(true,0,7,k) else(false,0,0,sleeps k i t ((Hd.placeP k.oh a.ah:Nat):Int) a):=by
 unfold askE at he
 by_cases hp:Hd.placeE k.oh a.ah≠0
 ·rw [if_pos hp] at he;exact absurd he hp
 ·rw [if_neg hp] at he
  have hp0:Hd.placeE k.oh a.ah=0:=by simpa using hp
  obtain⟨x,hx,_⟩:=hc.thing_at hp0
  rw [hx] at he
  simp only at he
  by_cases c1:Ob.Tk.fitB a.wh x.x.k=false∨(a.wh=11/\3 < a.am)
  ·rw [if_pos c1] at he;cases he
  ·rw [if_neg c1] at he
   by_cases c2:Ob.Tk.blkB a.wh a.aw=true/\1073741824 < a.aw
   ·rw [if_pos c2] at he;cases he
   ·refine⟨x,hp0,hx,?_,?_,?_⟩
    ·cases hf:Ob.Tk.fitB a.wh x.x.k with
     | false=>exact absurd (Or.inl hf) c1
     | true=>rfl
    ·intro hb
     exact Int.not_lt.1 fun c=>c2 ⟨hb,c⟩
    ·unfold ask1
     rw [if_neg (by omega),if_neg (by omega),if_neg (by omega),if_neg (by omega),if_neg hp]
     simp only [hx]
     rw [if_neg c1,if_neg (by omega),if_neg (by omega),if_neg c2]
theorem try1_any(h:St o0 w0 G w k)(hG:Shown G){i:Nat}{t:Ta}(hr:Rn k i t)(a:Aq)(hah:a.ah<=4294967295)(hw:3<=a.wh/\a.wh<=15)(he:askE k a≠0):Calls Tryz.prog 118 #[.pointer (some ⟨G.kp,0,none⟩),.pointer (some ⟨G.tp i,0,none⟩),aqV a] w fun e w'=>e=.returned (.tuple #[.bool (ask1 k i t a).1,.int .i64 (ask1 k i t a).2.2.1])/\St o0 w0 G w' (askS k i t a):=by
 have e1:=ask1_no (k:=k) (i:=i) (t:=t) hw he
 have e2:askS k i t a=answer k i (askE k a) 0:=by rw [askS_yes e1 (by omega),aft1_err he]
 rw [e2,e1]
 have h1:=h.below (alloc_below w (.cells (aqC a) 38))
 obtain⟨c0,c1,c2,c3,c4⟩:=asked_cells (w:=w) (a:=a) (Below.refl _ _)
 have HQ:=asked_all h1 hG hr.core a hah
 have HR:Hid (∀ wx,Below (w.alloc (.cells (aqC a) 38)).heap.size (w.alloc (.cells (aqC a) 38)) wx->Calls Tryz.prog 161 #[.pointer (some ⟨G.kp,0,none⟩),.pointer (some ⟨G.tp i,0,none⟩),.int .i64 (askE k a),.int .u32 0] wx fun e w'=>e=.returned (.tuple #[.bool true,.int .i64 (askE k a)])/\St o0 w0 G w' (answer k i (askE k a) 0)):=fun wx hb=>reply_any (h1.below hb) hr (askE k a) 0
 have he':(askE k a == 0)=false:=by simpa using he
 have he2:(askE k a != 0)=true:=by simpa using he
 unfold askP at HQ
 rw [if_neg he] at HQ
 clear h h1 hr e1 e2 he hw
 generalize answer k i (askE k a) 0=k2 at *
 generalize askE k a=er at *
 go_enter Tryz.func118,Tryz.ntmps118
 go_wp2_with (first
  |(go_at_call 163;refine HQ.mono ?_;rintro e w1 ⟨rfl,b1⟩;have B1:Hid (Below (w.alloc (.cells (aqC a) 38)).heap.size (w.alloc (.cells (aqC a) 38)) w1):=b1;clear b1)
  |(go_at_call 161;refine(HR.out _ B1.out).mono ?_;rintro e w2 ⟨rfl,h2⟩;have S2:Hid (St o0 w0 G w2 k2):=h2;clear h2))
 go_ret2
 exact⟨rfl,S2.out⟩
end
end Go.Proofs.YtbbdndfibjdcfaaGreat
namespace Go.Proofs.YtbbdndfibjdcfaaGreat
open Go Go.RowKit
section
variable {o0:Nat->Nat} {w0 w w':World} {G:Geo} {k:Kn}
theorem circ_lock(h:St o0 w0 G w k){o:Nat}{x:Th}(hx:k.os o=some x){who:Int}{a:Aq}{i:Int}(h7:(Ob.tA x.x who a.wh a.av a.am).2.1=7)(hf:Ob.Tk.fitB a.wh x.x.k=true)(hC:Hr.Circ (whom k) i (owner k o)):a.wh=5:=by
 by_cases h2:x.x.k=2
 ·rw [h2] at hf
  exact fit_lock' a.wh hf (try_wait _ _ _ _ _ h7).1
 ·have h0:=h.kd o x hx h2
  have e:owner k o=-1:=by
   unfold owner
   rw [hx]
   simp only
   unfold ownerOf
   rw [if_pos h0]
  rw [e] at hC
  have:=hC.2.1.1
  omega
open Classical in
theorem ny_eq{i:Nat}{t:Ta}{o:Nat}{a:Aq}(h1:a.wh≠1)(h5:Hr.Circ (whom k) (i:Int) (owner k o)->a.wh=5)
  (e:ask1 k i t a=if a.aw=0 then(true,0,if a.wh=7∨a.wh=8 then 10 else if a.wh=5 then 12 else 11,k) else if a.wh=5/\Hr.Circ (whom k) (i:Int) (owner k o) then(true,0,7,k) else(false,0,0,sleeps k i t (o:Int) a)) :
  (ask1 k i t a).1=(nyR k i t o a).1/\(ask1 k i t a).2.2.1=(nyR k i t o a).2.1/\askS k i t a=(nyR k i t o a).2.2:=by
 unfold nyR
 by_cases h0:a.aw=0
 ·rw [if_pos h0] at e
  rw [if_pos h0]
  refine⟨by rw [e],by rw [e],?_⟩
  rw [askS_yes e h1,aft1_err]
  split
  ·decide
  ·split <;> decide
 ·rw [if_neg h0] at e
  rw [if_neg h0]
  by_cases hC:Hr.Circ (whom k) (i:Int) (owner k o)
  ·rw [if_pos ⟨h5 hC,hC⟩] at e
   rw [if_pos hC]
   exact⟨by rw [e],by rw [e],by rw [askS_yes e h1,aft1_err (by decide)]⟩
  ·rw [if_neg (fun c=>hC c.2)] at e
   rw [if_neg hC]
   exact⟨by rw [e],by rw [e],by rw [askS_wait (by rw [e]),e]⟩
open Classical in
theorem try2_any(h:St o0 w0 G w k)(hG:Shown G){i:Nat}{t:Ta}(hr:Rn k i t)(a:Aq)(hah:a.ah<=4294967295)(hav:a.av < 4294967296)(hw:3<=a.wh/\a.wh<=15)(he:askE k a=0){x:Th}(hp:Hd.placeE k.oh a.ah=0)(hx:k.os (Hd.placeP k.oh a.ah)=some x)(hf:Ob.Tk.fitB a.wh x.x.k=true)(hbk:Ob.Tk.blkB a.wh a.aw=true->a.aw<=1073741824)
  (e1:ask1 k i t a=if(Ob.tA x.x t.h a.wh a.av a.am).2.1≠7 then(true,(Ob.tA x.x t.h a.wh a.av a.am).1,(Ob.tA x.x t.h a.wh a.av a.am).2.1,k.setO (Hd.placeP k.oh a.ah) { x with x:=(Ob.tA x.x t.h a.wh a.av a.am).2.2 }) else if a.aw=0 then(true,0,if a.wh=7∨a.wh=8 then 10 else if a.wh=5 then 12 else 11,k) else if a.wh=5/\Hr.Circ (whom k) (i:Int) (owner k (Hd.placeP k.oh a.ah)) then(true,0,7,k) else(false,0,0,sleeps k i t ((Hd.placeP k.oh a.ah:Nat):Int) a)) (h7:(Ob.tA x.x t.h a.wh a.av a.am).2.1=7) :
  Calls Tryz.prog 118 #[.pointer (some ⟨G.kp,0,none⟩),.pointer (some ⟨G.tp i,0,none⟩),aqV a] w fun e w'=>e=.returned (.tuple #[.bool (ask1 k i t a).1,.int .i64 (ask1 k i t a).2.2.1])/\St o0 w0 G w' (askS k i t a):=by
 obtain⟨own,hA,hX,hz0,hC⟩:=own_box h a
 have HX:Hid (Ext o0 own w0 (w.alloc (.cells (aqC a) 38))):=hX
 have HC:=(show Hid _ from hC)
 obtain⟨c0,c1,c2,c3,c4⟩:=asked_cells (w:=w) (a:=a) (Below.refl _ _)
 have HQ:=asked_all hA hG hr.core a hah
 rw [he] at HQ
 unfold askP at HQ
 rw [if_pos rfl] at HQ
 have hth:=hr.core.hfit hr.ht
 have HT:Hid (k.ts i=some t):=hr.ht
 have HXO:Hid (k.os (Hd.placeP k.oh a.ah)=some x):=hx
 have HA:Hid (St own (w.alloc (.cells (aqC a) 38)) G (w.alloc (.cells (aqC a) 38)) k):=hA
 obtain⟨n1,n2,n3⟩:=ny_eq (k:=k) (i:=i) (t:=t) (o:=Hd.placeP k.oh a.ah) (a:=a) (by omega) (fun c=>circ_lock h hx h7 hf c) (by rw [e1,if_neg (by simpa using h7)])
 rw [n1,n2,n3]
 have hbk2:a.aw<=1073741824:=by
  by_cases c:a.aw=0
  ·omega
  ·exact hbk ((blk_iff _ _).2 ⟨(try_wait _ _ _ _ _ h7).1,c⟩)
 have HTry:Hid (∀ wx,St own (w.alloc (.cells (aqC a) 38)) G wx k->Calls Tryz.prog 58 #[.pointer (some ⟨G.op (Hd.placeP k.oh a.ah),0,none⟩),.int .u32 (t.h:Nat),aqV a] wx fun e w'=>e=.returned (.tuple #[.int .u32 (Ob.tA x.x t.h a.wh a.av a.am).1,.int .i64 7])/\St own (w.alloc (.cells (aqC a) 38)) G w' k):=fun wx hx'=>by
  have:=k_try hx' hx (t.h:Int) a.wh a.ah a.av a.am a.aw (by omega) hav
  rw [try_err _ _ _ _ _ (by rw [h7];decide),setO_id hx,h7] at this
  exact this
 have HN:Hid (∀ wx,St own (w.alloc (.cells (aqC a) 38)) G wx k->Calls Tryz.prog 164 #[.pointer (some ⟨G.kp,0,none⟩),.pointer (some ⟨G.tp i,0,none⟩),.pointer (some ⟨G.xp (Hd.placeP k.oh a.ah),0,none⟩),aqV a] wx fun e w'=>e=.returned (.tuple #[.bool (nyR k i t (Hd.placeP k.oh a.ah) a).1,.int .i64 (nyR k i t (Hd.placeP k.oh a.ah) a).2.1])/\St own (w.alloc (.cells (aqC a) 38)) G w' (nyR k i t (Hd.placeP k.oh a.ah) a).2.2):=fun wx hx'=>by
  by_cases c:a.aw=0
  ·exact ny0_any hx' hr a c
  ·by_cases cc:Hr.Circ (whom k) (i:Int) (owner k (Hd.placeP k.oh a.ah))
   ·exact ny1_any hx' hr hx a hav hbk2 c cc
   ·exact ny2_any hx' hr hx a hav hbk2 c cc
 clear h hr e1 n1 n2 n3 hw he hp hx hf hbk hbk2 h7 hA hX hC hz0
 generalize nyR k i t (Hd.placeP k.oh a.ah) a=R at *
 generalize (Ob.tA x.x t.h a.wh a.av a.am).1=num at *
 generalize Hd.placeP k.oh a.ah=o at *
 go_enter Tryz.func118,Tryz.ntmps118
 go_wp2_with (go_at_call 163;refine HQ.mono ?_;rintro e w1 ⟨rfl,b1⟩;have S1:Hid (St own (w.alloc (.cells (aqC a) 38)) G w1 k):=HA.out.below b1;obtain⟨y0,y1,y2,y3,y4⟩:=HC.out _ _ S1.out;have q5:=S1.out.e5 HXO.out;have q0:=S1.out.d0 HT.out;clear b1)
 go_region_held3 (fun w'=>(w'.cell? ⟨w.heap.size,0,none⟩=some (.int .u8 a.wh)/\w'.cell? ⟨w.heap.size,1,none⟩=some (.int .u32 (a.ah:Nat))/\w'.cell? ⟨w.heap.size,2,none⟩=some (.int .u32 (a.av:Nat))/\w'.cell? ⟨w.heap.size,3,none⟩=some (.int .u32 (a.am:Nat))/\w'.cell? ⟨w.heap.size,4,none⟩=some (.int .i64 a.aw))/\w'.cell? ⟨G.xp o,5,none⟩=some (.pointer (some ⟨G.op o,0,none⟩))/\w'.cell? ⟨G.tp i,0,none⟩=some (.int .u32 (t.h:Nat))) (go_keep) (first
  |(go_at_call 58;refine(HTry.out _ S1.out.drew).mono ?_;rintro e w2 ⟨rfl,h2⟩;have S2:Hid (St own (w.alloc (.cells (aqC a) 38)) G w2 k):=h2;obtain⟨z0,z1,z2,z3,z4⟩:=HC.out _ _ h2;have u5:=h2.e5 HXO.out;have u0:=h2.d0 HT.out;clear h2)
  | fail)
 go_wp2_with (go_at_call 164;refine(HN.out _ S2.out).mono ?_;rintro e w5 ⟨rfl,h5⟩;have S5:Hid (St own (w.alloc (.cells (aqC a) 38)) G w5 R.2.2):=h5;clear h5)
 go_ret2
 exact⟨rfl,S5.out.from HX.out⟩
open Classical in
theorem try3_any(h:St o0 w0 G w k)(hG:Shown G){i:Nat}{t:Ta}(hr:Rn k i t)(a:Aq)(hah:a.ah<=4294967295)(hav:a.av < 4294967296)(hw:3<=a.wh/\a.wh<=15)(he:askE k a=0){x:Th}(hp:Hd.placeE k.oh a.ah=0)(hx:k.os (Hd.placeP k.oh a.ah)=some x)(hf:Ob.Tk.fitB a.wh x.x.k=true)(hbk:Ob.Tk.blkB a.wh a.aw=true->a.aw<=1073741824)
  (e1:ask1 k i t a=if(Ob.tA x.x t.h a.wh a.av a.am).2.1≠7 then(true,(Ob.tA x.x t.h a.wh a.av a.am).1,(Ob.tA x.x t.h a.wh a.av a.am).2.1,k.setO (Hd.placeP k.oh a.ah) { x with x:=(Ob.tA x.x t.h a.wh a.av a.am).2.2 }) else if a.aw=0 then(true,0,if a.wh=7∨a.wh=8 then 10 else if a.wh=5 then 12 else 11,k) else if a.wh=5/\Hr.Circ (whom k) (i:Int) (owner k (Hd.placeP k.oh a.ah)) then(true,0,7,k) else(false,0,0,sleeps k i t ((Hd.placeP k.oh a.ah:Nat):Int) a)) (h7:(Ob.tA x.x t.h a.wh a.av a.am).2.1≠7) (h0:(Ob.tA x.x t.h a.wh a.av a.am).2.1≠0) :
  Calls Tryz.prog 118 #[.pointer (some ⟨G.kp,0,none⟩),.pointer (some ⟨G.tp i,0,none⟩),aqV a] w fun e w'=>e=.returned (.tuple #[.bool (ask1 k i t a).1,.int .i64 (ask1 k i t a).2.2.1])/\St o0 w0 G w' (askS k i t a):=by
 obtain⟨own,hA,hX,hz0,hC⟩:=own_box h a
 have HX:Hid (Ext o0 own w0 (w.alloc (.cells (aqC a) 38))):=hX
 have HC:=(show Hid _ from hC)
 obtain⟨c0,c1,c2,c3,c4⟩:=asked_cells (w:=w) (a:=a) (Below.refl _ _)
 have HQ:=asked_all hA hG hr.core a hah
 rw [he] at HQ
 unfold askP at HQ
 rw [if_pos rfl] at HQ
 have hth:=hr.core.hfit hr.ht
 have HT:Hid (k.ts i=some t):=hr.ht
 have HXO:Hid (k.os (Hd.placeP k.oh a.ah)=some x):=hx
 have HA:Hid (St own (w.alloc (.cells (aqC a) 38)) G (w.alloc (.cells (aqC a) 38)) k):=hA
 have h7':(Ob.tA x.x t.h a.wh a.av a.am).2.1≠7:=h7
 rw [if_pos h7'] at e1
 rw [try_err _ _ _ _ _ h0,setO_id hx] at e1
 have e2:askS k i t a=answer k i (Ob.tA x.x t.h a.wh a.av a.am).2.1 (Ob.tA x.x t.h a.wh a.av a.am).1:=by rw [askS_yes e1 (by omega),aft1_err h0]
 rw [e2,e1]
 have HTry:Hid (∀ wx,St own (w.alloc (.cells (aqC a) 38)) G wx k->Calls Tryz.prog 58 #[.pointer (some ⟨G.op (Hd.placeP k.oh a.ah),0,none⟩),.int .u32 (t.h:Nat),aqV a] wx fun e w'=>e=.returned (.tuple #[.int .u32 (Ob.tA x.x t.h a.wh a.av a.am).1,.int .i64 (Ob.tA x.x t.h a.wh a.av a.am).2.1])/\St own (w.alloc (.cells (aqC a) 38)) G w' k):=fun wx hx'=>by
  have:=k_try hx' hx (t.h:Int) a.wh a.ah a.av a.am a.aw (by omega) hav
  rw [try_err _ _ _ _ _ h0,setO_id hx] at this
  exact this
 have HN:Hid (∀ wx,St own (w.alloc (.cells (aqC a) 38)) G wx k->Calls Tryz.prog 56 #[.pointer (some ⟨G.kp,0,none⟩),.pointer (some ⟨G.tp i,0,none⟩),.int .i64 (Ob.tA x.x t.h a.wh a.av a.am).2.1,.int .u32 (Ob.tA x.x t.h a.wh a.av a.am).1] wx fun e w'=>e=.returned (.tuple #[])/\St own (w.alloc (.cells (aqC a) 38)) G w' (answer k i (Ob.tA x.x t.h a.wh a.av a.am).2.1 (Ob.tA x.x t.h a.wh a.av a.am).1)):=fun wx hx'=>hr.core.answerC hr.ht _ _ ▸ answer_any hx' hr.ht (fun c=>by have:=hr.idle.1;omega) _ _
 have he7:((Ob.tA x.x t.h a.wh a.av a.am).2.1 == 7)=false:=by simpa using h7
 have he0:((Ob.tA x.x t.h a.wh a.av a.am).2.1 == 0)=false:=by simpa using h0
 clear h hr e1 e2 hw he hp hx hf hbk h0 h7 h7' hA hX hC hz0
 generalize answer k i (Ob.tA x.x t.h a.wh a.av a.am).2.1 (Ob.tA x.x t.h a.wh a.av a.am).1=k2 at *
 generalize (Ob.tA x.x t.h a.wh a.av a.am).1=num at *
 generalize (Ob.tA x.x t.h a.wh a.av a.am).2.1=er at *
 generalize Hd.placeP k.oh a.ah=o at *
 go_enter Tryz.func118,Tryz.ntmps118
 go_wp2_with (go_at_call 163;refine HQ.mono ?_;rintro e w1 ⟨rfl,b1⟩;have S1:Hid (St own (w.alloc (.cells (aqC a) 38)) G w1 k):=HA.out.below b1;obtain⟨y0,y1,y2,y3,y4⟩:=HC.out _ _ S1.out;have q5:=S1.out.e5 HXO.out;have q0:=S1.out.d0 HT.out;clear b1)
 go_region_held3 (fun w'=>(w'.cell? ⟨w.heap.size,0,none⟩=some (.int .u8 a.wh)/\w'.cell? ⟨w.heap.size,1,none⟩=some (.int .u32 (a.ah:Nat))/\w'.cell? ⟨w.heap.size,2,none⟩=some (.int .u32 (a.av:Nat))/\w'.cell? ⟨w.heap.size,3,none⟩=some (.int .u32 (a.am:Nat))/\w'.cell? ⟨w.heap.size,4,none⟩=some (.int .i64 a.aw))/\w'.cell? ⟨G.xp o,5,none⟩=some (.pointer (some ⟨G.op o,0,none⟩))/\w'.cell? ⟨G.tp i,0,none⟩=some (.int .u32 (t.h:Nat))) (go_keep) (first
  |(go_at_call 58;refine(HTry.out _ S1.out.drew).mono ?_;rintro e w2 ⟨rfl,h2⟩;have S2:Hid (St own (w.alloc (.cells (aqC a) 38)) G w2 k):=h2;obtain⟨z0,z1,z2,z3,z4⟩:=HC.out _ _ h2;have u5:=h2.e5 HXO.out;have u0:=h2.d0 HT.out;clear h2)
  | fail)
 go_wp2_with (go_at_call 56;refine(HN.out _ S2.out).mono ?_;rintro e w5 ⟨rfl,h5⟩;have S5:Hid (St own (w.alloc (.cells (aqC a) 38)) G w5 k2):=h5;clear h5)
 go_ret2
 exact⟨rfl,S5.out.from HX.out⟩
open Classical in
theorem try4_any(h:St o0 w0 G w k)(hG:Shown G){i:Nat}{t:Ta}(hr:Rn k i t)(a:Aq)(hah:a.ah<=4294967295)(hav:a.av < 4294967296)(hw:3<=a.wh/\a.wh<=15)(he:askE k a=0){x:Th}(hp:Hd.placeE k.oh a.ah=0)(hx:k.os (Hd.placeP k.oh a.ah)=some x)(hf:Ob.Tk.fitB a.wh x.x.k=true)(hbk:Ob.Tk.blkB a.wh a.aw=true->a.aw<=1073741824)
  (e1:ask1 k i t a=if(Ob.tA x.x t.h a.wh a.av a.am).2.1≠7 then(true,(Ob.tA x.x t.h a.wh a.av a.am).1,(Ob.tA x.x t.h a.wh a.av a.am).2.1,k.setO (Hd.placeP k.oh a.ah) { x with x:=(Ob.tA x.x t.h a.wh a.av a.am).2.2 }) else if a.aw=0 then(true,0,if a.wh=7∨a.wh=8 then 10 else if a.wh=5 then 12 else 11,k) else if a.wh=5/\Hr.Circ (whom k) (i:Int) (owner k (Hd.placeP k.oh a.ah)) then(true,0,7,k) else(false,0,0,sleeps k i t ((Hd.placeP k.oh a.ah:Nat):Int) a)) (h0:(Ob.tA x.x t.h a.wh a.av a.am).2.1=0) :
  Calls Tryz.prog 118 #[.pointer (some ⟨G.kp,0,none⟩),.pointer (some ⟨G.tp i,0,none⟩),aqV a] w fun e w'=>e=.returned (.tuple #[.bool (ask1 k i t a).1,.int .i64 (ask1 k i t a).2.2.1])/\St o0 w0 G w' (askS k i t a):=by
 obtain⟨own,hA,hX,hz0,hC⟩:=own_box h a
 have HX:Hid (Ext o0 own w0 (w.alloc (.cells (aqC a) 38))):=hX
 have HC:=(show Hid _ from hC)
 obtain⟨c0,c1,c2,c3,c4⟩:=asked_cells (w:=w) (a:=a) (Below.refl _ _)
 have HQ:=asked_all hA hG hr.core a hah
 rw [he] at HQ
 unfold askP at HQ
 rw [if_pos rfl] at HQ
 have hth:=hr.core.hfit hr.ht
 have HT:Hid (k.ts i=some t):=hr.ht
 have HXO:Hid (k.os (Hd.placeP k.oh a.ah)=some x):=hx
 have HA:Hid (St own (w.alloc (.cells (aqC a) 38)) G (w.alloc (.cells (aqC a) 38)) k):=hA
 have h7':(Ob.tA x.x t.h a.wh a.av a.am).2.1≠7:=by rw [h0];decide
 rw [if_pos h7'] at e1
 rw [h0] at e1
 obtain⟨k1,hk1⟩:∃ k1,k1=k.setO (Hd.placeP k.oh a.ah) { x with x:=(Ob.tA x.x t.h a.wh a.av a.am).2.2 }:=⟨_,rfl⟩
 rw [←hk1] at e1
 have hcore1:Core k1 0 NoD:=by
  have:=(ask1_ok hr.core hr.ht hr.st hr.held a).1
  rw [e1] at this
  exact this
 have hr1:Rn k1 i t:=⟨hcore1,by rw [hk1];exact hr.ht,hr.st,hr.held⟩
 have hx1:k1.os (Hd.placeP k.oh a.ah)=some { x with x:=(Ob.tA x.x t.h a.wh a.av a.am).2.2 }:=by rw [hk1];exact setO_at _ _ _
 have hans:answer k1 i 0 (Ob.tA x.x t.h a.wh a.av a.am).1=k1.setT i (t.told 0 (Ob.tA x.x t.h a.wh a.av a.am).1):=by
  unfold answer
  simp only [hr1.ht]
  rw [if_neg (by rw [hr.st];decide)]
 have e2:askS k i t a=serve (answer k1 i 0 (Ob.tA x.x t.h a.wh a.av a.am).1) (Hd.placeP k.oh a.ah):=by
  rw [askS_yes e1 (by omega)]
  unfold aft1
  rw [hans]
  have eo:(k1.setT i (t.told 0 (Ob.tA x.x t.h a.wh a.av a.am).1)).oh=k.oh:=by rw [hk1];rfl
  rw [eo,if_pos ⟨rfl,hp⟩]
  have es:(k1.setT i (t.told 0 (Ob.tA x.x t.h a.wh a.av a.am).1)).os (Hd.placeP k.oh a.ah)=some { x with x:=(Ob.tA x.x t.h a.wh a.av a.am).2.2 }:=hx1
  rw [es]
  simp only
  rw [if_pos (by rw [(try_kind _ _ _ _ _).1];exact hf)]
 rw [e2,e1]
 have hc2:Core (answer k1 i 0 (Ob.tA x.x t.h a.wh a.av a.am).1) 0 NoD:=hcore1.answer hr1.ht (by omega)
 have hx2:(answer k1 i 0 (Ob.tA x.x t.h a.wh a.av a.am).1).os (Hd.placeP k.oh a.ah)=some { x with x:=(Ob.tA x.x t.h a.wh a.av a.am).2.2 }:=by rw [hans];exact hx1
 have HTry:Hid (∀ wx,St own (w.alloc (.cells (aqC a) 38)) G wx k->Calls Tryz.prog 58 #[.pointer (some ⟨G.op (Hd.placeP k.oh a.ah),0,none⟩),.int .u32 (t.h:Nat),aqV a] wx fun e w'=>e=.returned (.tuple #[.int .u32 (Ob.tA x.x t.h a.wh a.av a.am).1,.int .i64 0])/\St own (w.alloc (.cells (aqC a) 38)) G w' k1):=fun wx hx'=>by
  have:=k_try hx' hx (t.h:Int) a.wh a.ah a.av a.am a.aw (by omega) hav
  rw [h0,←hk1] at this
  exact this
 have HT1:Hid (k1.ts i=some t/\k1.os (Hd.placeP k.oh a.ah)=some { x with x:=(Ob.tA x.x t.h a.wh a.av a.am).2.2 }):=⟨hr1.ht,hx1⟩
 have HN:Hid (∀ wx,St own (w.alloc (.cells (aqC a) 38)) G wx k1->Calls Tryz.prog 56 #[.pointer (some ⟨G.kp,0,none⟩),.pointer (some ⟨G.tp i,0,none⟩),.int .i64 0,.int .u32 (Ob.tA x.x t.h a.wh a.av a.am).1] wx fun e w'=>e=.returned (.tuple #[])/\St own (w.alloc (.cells (aqC a) 38)) G w' (answer k1 i 0 (Ob.tA x.x t.h a.wh a.av a.am).1)):=fun wx hx'=>hcore1.answerC hr1.ht 0 _ ▸ answer_any hx' hr1.ht (fun c=>by have:=hr1.idle.1;omega) 0 _
 have HSv:Hid (∀ wx,St own (w.alloc (.cells (aqC a) 38)) G wx (answer k1 i 0 (Ob.tA x.x t.h a.wh a.av a.am).1)->Calls Tryz.prog 60 #[.pointer (some ⟨G.kp,0,none⟩),.pointer (some ⟨G.xp (Hd.placeP k.oh a.ah),0,none⟩)] wx fun e w'=>e=.returned (.tuple #[])/\St own (w.alloc (.cells (aqC a) 38)) G w' (serve (answer k1 i 0 (Ob.tA x.x t.h a.wh a.av a.am).1) (Hd.placeP k.oh a.ah))):=fun wx hx'=>serve_any hx' hc2 (by omega) hx2
 clear h hr hr1 e1 e2 hw he hp hx hx1 hx2 hc2 hf hbk h0 h7' hA hX hC hz0 hans hcore1 hk1
 generalize serve (answer k1 i 0 (Ob.tA x.x t.h a.wh a.av a.am).1) (Hd.placeP k.oh a.ah)=k3 at *
 generalize answer k1 i 0 (Ob.tA x.x t.h a.wh a.av a.am).1=k2 at *
 generalize (Ob.tA x.x t.h a.wh a.av a.am).1=num at *
 generalize (Ob.tA x.x t.h a.wh a.av a.am).2.2=T at *
 generalize Hd.placeP k.oh a.ah=o at *
 go_enter Tryz.func118,Tryz.ntmps118
 go_wp2_with (go_at_call 163;refine HQ.mono ?_;rintro e w1 ⟨rfl,b1⟩;have S1:Hid (St own (w.alloc (.cells (aqC a) 38)) G w1 k):=HA.out.below b1;obtain⟨y0,y1,y2,y3,y4⟩:=HC.out _ _ S1.out;have q5:=S1.out.e5 HXO.out;have q0:=S1.out.d0 HT.out;clear b1)
 go_region_held3 (fun w'=>(w'.cell? ⟨w.heap.size,0,none⟩=some (.int .u8 a.wh)/\w'.cell? ⟨w.heap.size,1,none⟩=some (.int .u32 (a.ah:Nat))/\w'.cell? ⟨w.heap.size,2,none⟩=some (.int .u32 (a.av:Nat))/\w'.cell? ⟨w.heap.size,3,none⟩=some (.int .u32 (a.am:Nat))/\w'.cell? ⟨w.heap.size,4,none⟩=some (.int .i64 a.aw))/\w'.cell? ⟨G.xp o,5,none⟩=some (.pointer (some ⟨G.op o,0,none⟩))/\w'.cell? ⟨G.tp i,0,none⟩=some (.int .u32 (t.h:Nat))) (go_keep) (first
  |(go_at_call 58;refine(HTry.out _ S1.out.drew).mono ?_;rintro e w2 ⟨rfl,h2⟩;have S2:Hid (St own (w.alloc (.cells (aqC a) 38)) G w2 k1):=h2;obtain⟨z0,z1,z2,z3,z4⟩:=HC.out _ _ h2;have u5:=h2.e5 HT1.out.2;have u0:=h2.d0 HT1.out.1;clear h2)
  | fail)
 go_wp2_with (first
  |(go_at_call 56;refine(HN.out _ S2.out).mono ?_;rintro e w5 ⟨rfl,h5⟩;have S5:Hid (St own (w.alloc (.cells (aqC a) 38)) G w5 k2):=h5;clear h5)
  |(go_at_call 60;refine(HSv.out _ S5.out).mono ?_;rintro e w6 ⟨rfl,h6⟩;have S6:Hid (St own (w.alloc (.cells (aqC a) 38)) G w6 k3):=h6;clear h6))
 go_ret2
 exact⟨rfl,S6.out.from HX.out⟩
end
end Go.Proofs.YtbbdndfibjdcfaaGreat
namespace Go.Proofs.YtbbdndfibjdcfaaGreat
open Go Go.RowKit
theorem serve_nil{k:Kn}{o:Nat}{x:Th}(hx:k.os o=some x)(hq:x.q=[]):serve k o=k:=by
 unfold serve
 rw [hx]
 simp only [hq]
 rfl
theorem Core.alarm_q{k:Kn}{g:Int}(h:Core k g NoD){o:Nat}{x:Th}(hx:k.os o=some x)(h6:x.x.k=6):x.q=[]:=by
 cases hq:x.q with
 | nil=>rfl
 | cons y r =>
  obtain⟨i,t,e1,ht,hs,hon,_⟩:=(h.qT o x hx y).1 (by rw [hq];exact List.mem_cons_self ..)
  have hok:=h.tOk i t ht
  rcases hok.on hs with⟨_,c⟩ |⟨_,o',x',c1,c2,_,c4⟩
  ·omega
  ·have:o'=o:=by omega
   subst this
   rw [hx] at c2
   obtain rfl:=Option.some.inj c2
   rw [h6,Ob.Tk.fitB_iff] at c4
   have hm:=(hok.ask hs).1
   unfold Ob.Tk.MayW at hm
   unfold Ob.Tk.kd at c4
   rcases hm with c | c | c | c | c | c | c | c <;> rw [c] at c4 <;> simp at c4
section
variable {o0:Nat->Nat} {w0 w w':World} {G:Geo} {k:Kn}
theorem try_any(h:St o0 w0 G w k)(hG:Shown G){i:Nat}{t:Ta}(hr:Rn k i t)(a:Aq)(hah:a.ah<=4294967295)(hav:a.av < 4294967296)(hw:3<=a.wh/\a.wh<=15):Calls Tryz.prog 118 #[.pointer (some ⟨G.kp,0,none⟩),.pointer (some ⟨G.tp i,0,none⟩),aqV a] w fun e w'=>e=.returned (.tuple #[.bool (ask1 k i t a).1,.int .i64 (ask1 k i t a).2.2.1])/\St o0 w0 G w' (askS k i t a):=by
 by_cases he:askE k a=0
 ·obtain⟨x,hp,hx,hf,hbk,e1⟩:=ask1_at (i:=i) (t:=t) hw he hr.core
  by_cases h7:(Ob.tA x.x t.h a.wh a.av a.am).2.1=7
  ·exact try2_any h hG hr a hah hav hw he hp hx hf hbk e1 h7
  ·by_cases h0:(Ob.tA x.x t.h a.wh a.av a.am).2.1=0
   ·exact try4_any h hG hr a hah hav hw he hp hx hf hbk e1 h0
   ·exact try3_any h hG hr a hah hav hw he hp hx hf hbk e1 h7 h0
 ·exact try1_any h hG hr a hah hw he
theorem askE_alarm{a:Aq}(hw:a.wh=16∨a.wh=17)(hc:Core k 0 NoD):(askE k a≠0/\∀ i t,ask1 k i t a=(true,0,askE k a,k))∨(askE k a=0/\Hd.placeE k.oh a.ah=0/\∃ x,k.os (Hd.placeP k.oh a.ah)=some x/\x.x.k=6/\Ob.Tk.fitB a.wh x.x.k=true /\
  ∀ i t,ask1 k i t a=if a.wh=16 then(true,0,Tm.startE ((Hd.placeP k.oh a.ah:Nat):Int) a.av a.am,{ k with al:=Tm.startL k.al ((Hd.placeP k.oh a.ah:Nat):Int) a.av a.am }) else(true,0,Tm.stopE k.al ((Hd.placeP k.oh a.ah:Nat):Int),{ k with al:=Tm.off k.al ((Hd.placeP k.oh a.ah:Nat):Int) })):=by
 have hb:¬ Ob.Tk.blkB a.wh a.aw=true:=by
  rw [blk_iff]
  unfold Ob.Tk.MayW
  omega
 unfold askE ask1
 by_cases hp:Hd.placeE k.oh a.ah≠0
 ·refine Or.inl ⟨by rw [if_pos hp];exact hp,fun i t=>?_⟩
  rw [if_neg (by omega),if_neg (by omega),if_neg (by omega),if_neg (by omega),if_pos hp,if_pos hp]
 ·obtain⟨x,hx,_⟩:=hc.thing_at (by simpa using hp:Hd.placeE k.oh a.ah=0)
  rw [if_neg hp]
  simp only [hx]
  by_cases c1:Ob.Tk.fitB a.wh x.x.k=false∨(a.wh=11/\3 < a.am)
  ·refine Or.inl ⟨by rw [if_pos c1];decide,fun i t=>?_⟩
   rw [if_neg (by omega),if_neg (by omega),if_neg (by omega),if_neg (by omega),if_neg hp,if_pos c1,if_pos c1]
  ·have hf:Ob.Tk.fitB a.wh x.x.k=true:=by
    cases hf:Ob.Tk.fitB a.wh x.x.k with
    | false=>exact absurd (Or.inl hf) c1
    | true=>rfl
   refine Or.inr ⟨by rw [if_neg c1,if_neg (fun c=>hb c.1)],by simpa using hp,x,rfl,?_,hf,fun i t=>?_⟩
   ·rw [Ob.Tk.fitB_iff] at hf
    unfold Ob.Tk.kd at hf
    rcases hw with c | c <;> rw [c] at hf <;> simp at hf <;> omega
   ·rw [if_neg (by omega),if_neg (by omega),if_neg (by omega),if_neg (by omega),if_neg hp,if_neg c1]
    rcases hw with c | c
    ·rw [if_pos c,if_pos c]
    ·rw [if_neg (by omega),if_pos c,if_neg (by omega)]
theorem aft1_alarm{k1:Kn}{i:Nat}{t:Ta}{a:Aq}{e v:Int}(hr:Rn k1 i t){x:Th}(hx:k1.os (Hd.placeP k1.oh a.ah)=some x)(h6:x.x.k=6)(he:0<=e/\e<=15):aft1 (answer k1 i e v) e a=answer k1 i e v:=by
 have hans:answer k1 i e v=k1.setT i (t.told e v):=by
  unfold answer
  simp only [hr.ht]
  rw [if_neg (by rw [hr.st];decide)]
 have hc:=hr.core.answer hr.ht (e:=e) (v:=v) he
 unfold aft1
 split
 ·have ex:(answer k1 i e v).os (Hd.placeP (answer k1 i e v).oh a.ah)=some x:=by rw [hans];exact hx
  rw [ex]
  simp only
  split
  ·exact serve_nil ex (hc.alarm_q ex h6)
  ·rfl
 ·rfl
theorem start_no(h:St o0 w0 G w k)(hG:Shown G){i:Nat}{t:Ta}(hr:Rn k i t)(a:Aq)(hah:a.ah<=4294967295)(hw:a.wh=16)(he:askE k a≠0)(e1:ask1 k i t a=(true,0,askE k a,k)):Calls Tryz.prog 119 #[.pointer (some ⟨G.kp,0,none⟩),.pointer (some ⟨G.tp i,0,none⟩),aqV a] w fun e w'=>e=.returned (.tuple #[.bool (ask1 k i t a).1,.int .i64 (ask1 k i t a).2.2.1])/\St o0 w0 G w' (askS k i t a):=by
 have e2:askS k i t a=answer k i (askE k a) 0:=by rw [askS_yes e1 (by omega),aft1_err he]
 rw [e2,e1]
 have h1:=h.below (alloc_below w (.cells (aqC a) 38))
 obtain⟨c0,c1,c2,c3,c4⟩:=asked_cells (w:=w) (a:=a) (Below.refl _ _)
 have HQ:=asked_all h1 hG hr.core a hah
 have HR:Hid (∀ wx,Below (w.alloc (.cells (aqC a) 38)).heap.size (w.alloc (.cells (aqC a) 38)) wx->Calls Tryz.prog 161 #[.pointer (some ⟨G.kp,0,none⟩),.pointer (some ⟨G.tp i,0,none⟩),.int .i64 (askE k a),.int .u32 0] wx fun e w'=>e=.returned (.tuple #[.bool true,.int .i64 (askE k a)])/\St o0 w0 G w' (answer k i (askE k a) 0)):=fun wx hb=>reply_any (h1.below hb) hr (askE k a) 0
 have he':(askE k a == 0)=false:=by simpa using he
 have he2:(askE k a != 0)=true:=by simpa using he
 unfold askP at HQ
 rw [if_neg he] at HQ
 clear h h1 hr e1 e2 he hw
 generalize answer k i (askE k a) 0=k2 at *
 generalize askE k a=er at *
 go_enter Tryz.func119,Tryz.ntmps119
 go_wp2_with (first
  |(go_at_call 163;refine HQ.mono ?_;rintro e w1 ⟨rfl,b1⟩;have B1:Hid (Below (w.alloc (.cells (aqC a) 38)).heap.size (w.alloc (.cells (aqC a) 38)) w1):=b1;clear b1)
  |(go_at_call 161;refine(HR.out _ B1.out).mono ?_;rintro e w2 ⟨rfl,h2⟩;have S2:Hid (St o0 w0 G w2 k2):=h2;clear h2))
 go_ret2
 exact⟨rfl,S2.out⟩
theorem stop_no(h:St o0 w0 G w k)(hG:Shown G){i:Nat}{t:Ta}(hr:Rn k i t)(a:Aq)(hah:a.ah<=4294967295)(hw:a.wh=17)(he:askE k a≠0)(e1:ask1 k i t a=(true,0,askE k a,k)):Calls Tryz.prog 120 #[.pointer (some ⟨G.kp,0,none⟩),.pointer (some ⟨G.tp i,0,none⟩),aqV a] w fun e w'=>e=.returned (.tuple #[.bool (ask1 k i t a).1,.int .i64 (ask1 k i t a).2.2.1])/\St o0 w0 G w' (askS k i t a):=by
 have e2:askS k i t a=answer k i (askE k a) 0:=by rw [askS_yes e1 (by omega),aft1_err he]
 rw [e2,e1]
 have h1:=h.below (alloc_below w (.cells (aqC a) 38))
 obtain⟨c0,c1,c2,c3,c4⟩:=asked_cells (w:=w) (a:=a) (Below.refl _ _)
 have HQ:=asked_all h1 hG hr.core a hah
 have HR:Hid (∀ wx,Below (w.alloc (.cells (aqC a) 38)).heap.size (w.alloc (.cells (aqC a) 38)) wx->Calls Tryz.prog 161 #[.pointer (some ⟨G.kp,0,none⟩),.pointer (some ⟨G.tp i,0,none⟩),.int .i64 (askE k a),.int .u32 0] wx fun e w'=>e=.returned (.tuple #[.bool true,.int .i64 (askE k a)])/\St o0 w0 G w' (answer k i (askE k a) 0)):=fun wx hb=>reply_any (h1.below hb) hr (askE k a) 0
 have he':(askE k a == 0)=false:=by simpa using he
 have he2:(askE k a != 0)=true:=by simpa using he
 unfold askP at HQ
 rw [if_neg he] at HQ
 clear h h1 hr e1 e2 he hw
 generalize answer k i (askE k a) 0=k2 at *
 generalize askE k a=er at *
 go_enter Tryz.func120,Tryz.ntmps120
 go_wp2_with (first
  |(go_at_call 163;refine HQ.mono ?_;rintro e w1 ⟨rfl,b1⟩;have B1:Hid (Below (w.alloc (.cells (aqC a) 38)).heap.size (w.alloc (.cells (aqC a) 38)) w1):=b1;clear b1)
  |(go_at_call 161;refine(HR.out _ B1.out).mono ?_;rintro e w2 ⟨rfl,h2⟩;have S2:Hid (St o0 w0 G w2 k2):=h2;clear h2))
 go_ret2
 exact⟨rfl,S2.out⟩
theorem start_yes(h:St o0 w0 G w k)(hG:Shown G){i:Nat}{t:Ta}(hr:Rn k i t)(a:Aq)(hah:a.ah<=4294967295)(hav:a.av < 4294967296)(ham:a.am < 4294967296)(han:G.an<=100000)(hw:a.wh=16)(he:askE k a=0){x:Th}(hx:k.os (Hd.placeP k.oh a.ah)=some x)(h6:x.x.k=6)(e1:ask1 k i t a=(true,0,Tm.startE ((Hd.placeP k.oh a.ah:Nat):Int) a.av a.am,{ k with al:=Tm.startL k.al ((Hd.placeP k.oh a.ah:Nat):Int) a.av a.am })):Calls Tryz.prog 119 #[.pointer (some ⟨G.kp,0,none⟩),.pointer (some ⟨G.tp i,0,none⟩),aqV a] w fun e w'=>e=.returned (.tuple #[.bool (ask1 k i t a).1,.int .i64 (ask1 k i t a).2.2.1])/\St o0 w0 ({ G with an:=G.an+1 }:Geo) w' (askS k i t a):=by
 obtain⟨own,hA,hX,hz0,hC⟩:=own_box h a
 obtain⟨k1,hk1⟩:∃ k1:Kn,k1={ k with al:=Tm.startL k.al ((Hd.placeP k.oh a.ah:Nat):Int) a.av a.am }:=⟨_,rfl⟩
 rw [←hk1] at e1
 have hcore1:Core k1 0 NoD:=by
  have:=(ask1_ok hr.core hr.ht hr.st hr.held a).1
  rw [e1] at this
  exact this
 have hr1:Rn k1 i t:=⟨hcore1,by rw [hk1];exact hr.ht,hr.st,hr.held⟩
 have hx1:k1.os (Hd.placeP k1.oh a.ah)=some x:=by rw [hk1];exact hx
 have he15:0<=Tm.startE ((Hd.placeP k.oh a.ah:Nat):Int) a.av a.am/\Tm.startE ((Hd.placeP k.oh a.ah:Nat):Int) a.av a.am<=15:=start_e _ _ _
 have e2:askS k i t a=answer k1 i (Tm.startE ((Hd.placeP k.oh a.ah:Nat):Int) a.av a.am) 0:=by rw [askS_yes e1 (by omega),aft1_alarm hr1 hx1 h6 he15]
 rw [e2,e1]
 have HX:Hid (Ext o0 own w0 (w.alloc (.cells (aqC a) 38))):=hX
 have HZ0:Hid (own w.heap.size=0):=hz0
 obtain⟨c0,c1,c2,c3,c4⟩:=asked_cells (w:=w) (a:=a) (Below.refl _ _)
 have CB:Hid ((w.alloc (.cells (aqC a) 38)).cell? ⟨w.heap.size,2,none⟩=some (.int .u32 (a.av:Nat))/\(w.alloc (.cells (aqC a) 38)).cell? ⟨w.heap.size,3,none⟩=some (.int .u32 (a.am:Nat))):=⟨c2,c3⟩
 have HQ:=asked_all hA hG hr.core a hah
 rw [he] at HQ
 unfold askP at HQ
 rw [if_pos rfl] at HQ
 have HXO:Hid (k.os (Hd.placeP k.oh a.ah)=some x/\k1.os (Hd.placeP k.oh a.ah)=some x):=⟨hx,by rw [hk1];exact hx⟩
 have HA:Hid (St own (w.alloc (.cells (aqC a) 38)) G (w.alloc (.cells (aqC a) 38)) k):=hA
 have HAl:Hid (∀ wx,St own (w.alloc (.cells (aqC a) 38)) G wx k->Calls Tryz.prog 165 #[.pointer (some ⟨G.ap,0,none⟩),.int .i64 ((Hd.placeP k.oh a.ah:Nat):Int),.int .i64 (a.av:Int),.int .i64 (a.am:Int)] wx fun e w'=>e=.returned (.int .i64 (Tm.startE ((Hd.placeP k.oh a.ah:Nat):Int) a.av a.am))/\St own (w.alloc (.cells (aqC a) 38)) ({ G with an:=G.an+1 }:Geo) w' k1):=fun wx hx'=>hk1 ▸ k_astart hx' han hx (by have:=hx'.few;omega) _ _
 have HR:Hid (∀ wx,St own (w.alloc (.cells (aqC a) 38)) ({ G with an:=G.an+1 }:Geo) wx k1->Calls Tryz.prog 161 #[.pointer (some ⟨G.kp,0,none⟩),.pointer (some ⟨G.tp i,0,none⟩),.int .i64 (Tm.startE ((Hd.placeP k.oh a.ah:Nat):Int) a.av a.am),.int .u32 0] wx fun e w'=>e=.returned (.tuple #[.bool true,.int .i64 (Tm.startE ((Hd.placeP k.oh a.ah:Nat):Int) a.av a.am)])/\St own (w.alloc (.cells (aqC a) 38)) ({ G with an:=G.an+1 }:Geo) w' (answer k1 i (Tm.startE ((Hd.placeP k.oh a.ah:Nat):Int) a.av a.am) 0)):=fun wx hx'=>reply_any hx' hr1 _ 0
 have hvw:IntKind.i64.wrap (a.av:Int)=(a.av:Int):=by rw [IntKind.wrap_i64];omega
 have hmw:IntKind.i64.wrap (a.am:Int)=(a.am:Int):=by rw [IntKind.wrap_i64];omega
 clear h hr hr1 e1 e2 he hw hx hx1 h6 hA hX hC hz0 hcore1 hk1 he15
 generalize answer k1 i (Tm.startE ((Hd.placeP k.oh a.ah:Nat):Int) a.av a.am) 0=k2 at *
 generalize Tm.startE ((Hd.placeP k.oh a.ah:Nat):Int) a.av a.am=er at *
 generalize Hd.placeP k.oh a.ah=o at *
 go_enter Tryz.func119,Tryz.ntmps119
 go_wp2_with (go_at_call 163;refine HQ.mono ?_;rintro e w1 ⟨rfl,b1⟩;have S1:Hid (St own (w.alloc (.cells (aqC a) 38)) G w1 k):=HA.out.below b1;have y2:=S1.out.cell HZ0.out CB.out.1;have y3:=S1.out.cell HZ0.out CB.out.2;have q1:=S1.out.e1 HXO.out.1;have q8:=S1.out.c8;clear b1)
 go_region_held3 (fun w'=>(w'.cell? ⟨w.heap.size,2,none⟩=some (.int .u32 (a.av:Nat))/\w'.cell? ⟨w.heap.size,3,none⟩=some (.int .u32 (a.am:Nat)))/\w'.cell? ⟨G.xp o,1,none⟩=some (.int .i64 (o:Nat))/\w'.cell? ⟨G.kp,8,none⟩=some (.pointer (some ⟨G.ap,0,none⟩))) (go_keep) (first
  |(go_at_call 165;refine(HAl.out _ S1.out.drew).mono ?_;rintro e w2 ⟨rfl,h2⟩;have S2:Hid (St own (w.alloc (.cells (aqC a) 38)) ({ G with an:=G.an+1 }:Geo) w2 k1):=h2;have z2:=h2.cell HZ0.out CB.out.1;have z3:=h2.cell HZ0.out CB.out.2;have u1:w2.cell? ⟨G.xp o,1,none⟩=some (.int .i64 (o:Nat)):=h2.e1 HXO.out.2;have u8:w2.cell? ⟨G.kp,8,none⟩=some (.pointer (some ⟨G.ap,0,none⟩)):=h2.c8;clear h2)
  | fail)
 go_wp2_with (go_at_call 161;refine(HR.out _ S2.out).mono ?_;rintro e w5 ⟨rfl,h5⟩;have S5:Hid (St own (w.alloc (.cells (aqC a) 38)) ({ G with an:=G.an+1 }:Geo) w5 k2):=h5;clear h5)
 go_ret2
 exact⟨rfl,S5.out.from HX.out⟩
theorem stop_yes(h:St o0 w0 G w k)(hG:Shown G){i:Nat}{t:Ta}(hr:Rn k i t)(a:Aq)(hah:a.ah<=4294967295)(hav:a.av < 4294967296)(ham:a.am < 4294967296)(han:G.an<=100000)(hw:a.wh=17)(he:askE k a=0){x:Th}(hx:k.os (Hd.placeP k.oh a.ah)=some x)(h6:x.x.k=6)(e1:ask1 k i t a=(true,0,Tm.stopE k.al ((Hd.placeP k.oh a.ah:Nat):Int),{ k with al:=Tm.off k.al ((Hd.placeP k.oh a.ah:Nat):Int) })):Calls Tryz.prog 120 #[.pointer (some ⟨G.kp,0,none⟩),.pointer (some ⟨G.tp i,0,none⟩),aqV a] w fun e w'=>e=.returned (.tuple #[.bool (ask1 k i t a).1,.int .i64 (ask1 k i t a).2.2.1])/\St o0 w0 G w' (askS k i t a):=by
 obtain⟨own,hA,hX,hz0,hC⟩:=own_box h a
 obtain⟨k1,hk1⟩:∃ k1:Kn,k1={ k with al:=Tm.off k.al ((Hd.placeP k.oh a.ah:Nat):Int) }:=⟨_,rfl⟩
 rw [←hk1] at e1
 have hcore1:Core k1 0 NoD:=by
  have:=(ask1_ok hr.core hr.ht hr.st hr.held a).1
  rw [e1] at this
  exact this
 have hr1:Rn k1 i t:=⟨hcore1,by rw [hk1];exact hr.ht,hr.st,hr.held⟩
 have hx1:k1.os (Hd.placeP k1.oh a.ah)=some x:=by rw [hk1];exact hx
 have he15:0<=Tm.stopE k.al ((Hd.placeP k.oh a.ah:Nat):Int)/\Tm.stopE k.al ((Hd.placeP k.oh a.ah:Nat):Int)<=15:=stop_e _ _
 have e2:askS k i t a=answer k1 i (Tm.stopE k.al ((Hd.placeP k.oh a.ah:Nat):Int)) 0:=by rw [askS_yes e1 (by omega),aft1_alarm hr1 hx1 h6 he15]
 rw [e2,e1]
 have HX:Hid (Ext o0 own w0 (w.alloc (.cells (aqC a) 38))):=hX
 have HZ0:Hid (own w.heap.size=0):=hz0
 obtain⟨c0,c1,c2,c3,c4⟩:=asked_cells (w:=w) (a:=a) (Below.refl _ _)
 have CB:Hid ((w.alloc (.cells (aqC a) 38)).cell? ⟨w.heap.size,2,none⟩=some (.int .u32 (a.av:Nat))/\(w.alloc (.cells (aqC a) 38)).cell? ⟨w.heap.size,3,none⟩=some (.int .u32 (a.am:Nat))):=⟨c2,c3⟩
 have HQ:=asked_all hA hG hr.core a hah
 rw [he] at HQ
 unfold askP at HQ
 rw [if_pos rfl] at HQ
 have HXO:Hid (k.os (Hd.placeP k.oh a.ah)=some x/\k1.os (Hd.placeP k.oh a.ah)=some x):=⟨hx,by rw [hk1];exact hx⟩
 have HA:Hid (St own (w.alloc (.cells (aqC a) 38)) G (w.alloc (.cells (aqC a) 38)) k):=hA
 have HAl:Hid (∀ wx,St own (w.alloc (.cells (aqC a) 38)) G wx k->Calls Tryz.prog 53 #[.pointer (some ⟨G.ap,0,none⟩),.int .i64 ((Hd.placeP k.oh a.ah:Nat):Int)] wx fun e w'=>e=.returned (.int .i64 (Tm.stopE k.al ((Hd.placeP k.oh a.ah:Nat):Int)))/\St own (w.alloc (.cells (aqC a) 38)) G w' k1):=fun wx hx'=>hk1 ▸ k_astopv hx' (hx'.oi hx)
 have HR:Hid (∀ wx,St own (w.alloc (.cells (aqC a) 38)) G wx k1->Calls Tryz.prog 161 #[.pointer (some ⟨G.kp,0,none⟩),.pointer (some ⟨G.tp i,0,none⟩),.int .i64 (Tm.stopE k.al ((Hd.placeP k.oh a.ah:Nat):Int)),.int .u32 0] wx fun e w'=>e=.returned (.tuple #[.bool true,.int .i64 (Tm.stopE k.al ((Hd.placeP k.oh a.ah:Nat):Int))])/\St own (w.alloc (.cells (aqC a) 38)) G w' (answer k1 i (Tm.stopE k.al ((Hd.placeP k.oh a.ah:Nat):Int)) 0)):=fun wx hx'=>reply_any hx' hr1 _ 0
 clear h hr hr1 e1 e2 he hw hx hx1 h6 hA hX hC hz0 hcore1 hk1 he15
 generalize answer k1 i (Tm.stopE k.al ((Hd.placeP k.oh a.ah:Nat):Int)) 0=k2 at *
 generalize Tm.stopE k.al ((Hd.placeP k.oh a.ah:Nat):Int)=er at *
 generalize Hd.placeP k.oh a.ah=o at *
 go_enter Tryz.func120,Tryz.ntmps120
 go_wp2_with (go_at_call 163;refine HQ.mono ?_;rintro e w1 ⟨rfl,b1⟩;have S1:Hid (St own (w.alloc (.cells (aqC a) 38)) G w1 k):=HA.out.below b1;have y2:=S1.out.cell HZ0.out CB.out.1;have y3:=S1.out.cell HZ0.out CB.out.2;have q1:=S1.out.e1 HXO.out.1;have q8:=S1.out.c8;clear b1)
 go_region_held3 (fun w'=>(w'.cell? ⟨w.heap.size,2,none⟩=some (.int .u32 (a.av:Nat))/\w'.cell? ⟨w.heap.size,3,none⟩=some (.int .u32 (a.am:Nat)))/\w'.cell? ⟨G.xp o,1,none⟩=some (.int .i64 (o:Nat))/\w'.cell? ⟨G.kp,8,none⟩=some (.pointer (some ⟨G.ap,0,none⟩))) (go_keep) (first
  |(go_at_call 53;refine(HAl.out _ S1.out.drew).mono ?_;rintro e w2 ⟨rfl,h2⟩;have S2:Hid (St own (w.alloc (.cells (aqC a) 38)) G w2 k1):=h2;have z2:=h2.cell HZ0.out CB.out.1;have z3:=h2.cell HZ0.out CB.out.2;have u1:w2.cell? ⟨G.xp o,1,none⟩=some (.int .i64 (o:Nat)):=h2.e1 HXO.out.2;have u8:w2.cell? ⟨G.kp,8,none⟩=some (.pointer (some ⟨G.ap,0,none⟩)):=h2.c8;clear h2)
  | fail)
 go_wp2_with (go_at_call 161;refine(HR.out _ S2.out).mono ?_;rintro e w5 ⟨rfl,h5⟩;have S5:Hid (St own (w.alloc (.cells (aqC a) 38)) G w5 k2):=h5;clear h5)
 go_ret2
 exact⟨rfl,S5.out.from HX.out⟩
end
end Go.Proofs.YtbbdndfibjdcfaaGreat
namespace Go.Proofs.YtbbdndfibjdcfaaGreat
open Go Go.RowKit
theorem askS_pre{k:Kn}(h:Pre k){i:Nat}{t:Ta}(ht:k.ts i=some t)(hs:t.st=1)(hd:t.held=false)(a:Aq):Pre (askS k i t a):=by
 obtain⟨c1,c2⟩:=ask1_ok h.core ht hs hd a
 have hF:=ask1_fin h ht hs hd a
 unfold askS aft1
 generalize ask1 k i t a=R at *
 dsimp only
 split
 ·rename_i hR
  obtain⟨he,t1,h1,h2,h3⟩:=c2 hR
  have hA:=c1.answer (v:=R.2.1) h1 he
  have hoh:∀ (b:Prop) (d:Decidable b),(@ite _ b d (join (answer R.2.2.2 i R.2.2.1 R.2.1) i) (answer R.2.2.2 i R.2.2.1 R.2.1)).oh=R.2.2.2.oh:=fun b d=>by
   split
   ·unfold join;split
    ·exact(answer_rest _ _).2.1
    ·exact(answer_rest _ _).2.1
   ·exact(answer_rest _ _).2.1
  have hJ:Core (if a.wh=1 then YtbbdndfibjdcfaaGreat.join (YtbbdndfibjdcfaaGreat.answer R.2.2.2 i R.2.2.1 R.2.1) i else YtbbdndfibjdcfaaGreat.answer R.2.2.2 i R.2.2.1 R.2.1) 0 NoD:=by
   split
   ·have h1':(YtbbdndfibjdcfaaGreat.answer R.2.2.2 i R.2.2.1 R.2.1).ts i=some (t1.done R.2.2.1 R.2.1):=by rw [answer_ts h1,set1_at]
    obtain⟨k1,k2,k3,k4,k5,k6,k7⟩:=done_keep t1 R.2.2.1 R.2.1
    exact hA.join h1' (by rw [k7,if_neg (by rw [h2];decide)];exact h2) (by rw [k3];exact h3)
   ·exact hA
  have hM:Mono R.2.2.2 (if a.wh=1 then YtbbdndfibjdcfaaGreat.join (YtbbdndfibjdcfaaGreat.answer R.2.2.2 i R.2.2.1 R.2.1) i else YtbbdndfibjdcfaaGreat.answer R.2.2.2 i R.2.2.1 R.2.1):=by
   split
   ·exact(mono_answer _ _ _ _).trans (mono_join _ _)
   ·exact mono_answer _ _ _ _
  have hoh':=hoh (a.wh=1) inferInstance
  have hos:∀ y,R.2.2.2.os (Hd.placeP k.oh a.ah)=some y->∃ y',(if a.wh=1 then YtbbdndfibjdcfaaGreat.join (YtbbdndfibjdcfaaGreat.answer R.2.2.2 i R.2.2.1 R.2.1) i else YtbbdndfibjdcfaaGreat.answer R.2.2.2 i R.2.2.1 R.2.1).os (Hd.placeP k.oh a.ah)=some y'/\y'.x=y.x:=fun y hy=>by
   have hn:(YtbbdndfibjdcfaaGreat.answer R.2.2.2 i R.2.2.1 R.2.1).os=R.2.2.2.os:=by rw [answer_os h1,if_neg (by rw [h2];decide)]
   split
   ·refine⟨y,?_,rfl⟩
    unfold YtbbdndfibjdcfaaGreat.join
    split <;> (rw [show _=(YtbbdndfibjdcfaaGreat.answer R.2.2.2 i R.2.2.1 R.2.1).os from rfl] ;rw [hn];exact hy)
   ·exact⟨y,by rw [hn];exact hy,rfl⟩
  generalize (if a.wh=1 then YtbbdndfibjdcfaaGreat.join (YtbbdndfibjdcfaaGreat.answer R.2.2.2 i R.2.2.1 R.2.1) i else YtbbdndfibjdcfaaGreat.answer R.2.2.2 i R.2.2.1 R.2.1)=k2 at *
  rcases hF with⟨_,hP⟩ |⟨_,e0,hpe,x,y,hx,hfy,hRe,hB⟩ |⟨hno,_⟩
  ·have hP2:=hP.mono hJ hM
   split
   ·split
    ·split
     ·exact hP2.serve _
     ·exact hP2
    ·exact hP2
   ·exact hP2
  ·have hB2:=hB.mono hJ hM
   have eoh:k2.oh=k.oh:=by rw [hoh',hRe];rfl
   obtain⟨y',hy',ey⟩:=hos y (by rw [hRe];exact set1_at _ _ _)
   rw [eoh]
   rw [if_pos ⟨e0,hpe⟩,hy']
   dsimp only
   rw [if_pos (by rw [ey];exact hfy)]
   exact hB2.serve
  ·rw [hR] at hno;cases hno
 ·rename_i hR
  rcases hF with⟨hyes,_⟩ |⟨hyes,_⟩ |⟨_,hP⟩
  ·exact absurd hyes hR
  ·exact absurd hyes hR
  ·exact hP
theorem askK_is{k:Kn}{a:Aq}{i:Nat}{t:Ta}(hb:Rd.fsb k.rd=true)(hw:¬ (a.wh < 1∨20 < a.wh))(hi:i=(Rd.fsv k.rd).toNat)(ht:k.ts i=some t)(h20:a.wh≠20):askK k a=((ask1 k i t a).1,(ask1 k i t a).2.2.1,anew (askS k i t a)):=by
 unfold askK
 rw [if_neg (by rw [hb];decide),if_neg hw]
 subst hi
 simp only [ht]
 rw [if_neg h20]
 unfold askS aft1
 cases h1:(ask1 k (Rd.fsv k.rd).toNat t a).1 with
 | true =>
  simp only [if_true]
  generalize (if a.wh=1 then join (answer (ask1 k (Rd.fsv k.rd).toNat t a).2.2.2 (Rd.fsv k.rd).toNat (ask1 k (Rd.fsv k.rd).toNat t a).2.2.1 (ask1 k (Rd.fsv k.rd).toNat t a).2.1) (Rd.fsv k.rd).toNat else answer (ask1 k (Rd.fsv k.rd).toNat t a).2.2.2 (Rd.fsv k.rd).toNat (ask1 k (Rd.fsv k.rd).toNat t a).2.2.1 (ask1 k (Rd.fsv k.rd).toNat t a).2.1)=k2
  rw [if_pos h1]
  by_cases c:(ask1 k (Rd.fsv k.rd).toNat t a).2.2.1=0/\Hd.placeE k2.oh a.ah=0
  ·rw [if_pos c,if_pos c]
   cases k2.os (Hd.placeP k2.oh a.ah) <;> rfl
  ·rw [if_neg c,if_neg c]
 | false=>rw [if_neg (by decide),if_neg (by rw [h1];decide)]
end Go.Proofs.YtbbdndfibjdcfaaGreat
namespace Go.Proofs.YtbbdndfibjdcfaaGreat
open Go Go.RowKit
def Geo.anS(G:Geo):Geo:={ G with an:=G.an+1 }
section
variable {o0:Nat->Nat} {w0 w w':World} {G:Geo} {k:Kn}
theorem endSelf_any(h:St o0 w0 G w k)(hG:Shown G)(hf:Fin k){i:Nat}{t:Ta}(ht:k.ts i=some t)(a:Aq):Calls Tryz.prog 123 #[.pointer (some ⟨G.kp,0,none⟩),.pointer (some ⟨G.tp i,0,none⟩),aqV a] w fun e w'=>e=.returned (.tuple #[.bool true,.int .i64 0])/\St o0 w0 G w' (lets (gone1 k t.h i t) t.h):=by
 obtain⟨hp,hi⟩:=hf.core.place ht
 have hz:=hf.core.hfit ht
 have h0:t.h≠0:=hf.core.hpos ht
 have ht':k.ts (Hd.placeP k.th t.h)=some t:=by rw [hi];exact ht
 have hE:=end1_any (h.below (alloc_below w (.cells (aqC a) 38))) hG h0 hz hp ht' rfl ((hf.core.nm (by omega)).on _ t ht) (gone_core hf hp ht' rfl)
 rw [hi] at hE
 clear h hf ht ht' hp hi hz h0
 generalize lets (gone1 k t.h i t) t.h=K at *
 go_enter Tryz.func123,Tryz.ntmps123
 go_wp2_with (go_at_call 64;refine hE.mono ?_;rintro e w2 ⟨rfl,h2⟩;have S2:Hid (St o0 w0 G w2 K):=h2;clear h2)
 go_ret2
 exact⟨rfl,S2.out⟩
theorem ask_yield(h:St o0 w0 G w k)(hf:Fin k)(hb:Rd.fsb k.rd=true){i:Nat}{t:Ta}(hi:i=(Rd.fsv k.rd).toNat)(ht:k.ts i=some t)(a:Aq)(hg:doF a.wh=some 116)(hw8:W8 a.wh){b:Bool}{er:Int}{K:Kn}(hC:Core K 0 NoD)(hS:SelfK K)
  (HD:∀ wx,St o0 w0 G wx k->Calls Tryz.prog 116 #[.pointer (some ⟨G.kp,0,none⟩),.pointer (some ⟨G.tp i,0,none⟩),aqV a] wx fun e w'=>e=.returned (.tuple #[.bool b,.int .i64 er])/\St o0 w0 G w' K) :
  Calls Tryz.prog 33 #[.pointer (some ⟨G.kp,0,none⟩),aqV a] w fun e w'=>e=.returned (.tuple #[.bool b,.int .i64 er])/\St o0 w0 G w' (anew K):=by
 have hb0:=alloc_below w (.cells (aqC a) 38)
 have h1:=h.below hb0
 have HTh:=there_any h1 h1.slo.1.1
 have HRun:=running_any h1 (run_in h1 (hf.core.nm (by omega)))
 rw [runP_yes hb (by rw [←hi];exact ht),←hi] at HRun
 have HB:Hid ((w.alloc (.cells (aqC a) 38)).heap.size=w.heap.size+1):=alloc_size w _
 have HSt:Hid (∀ wx,Below (w.alloc (.cells (aqC a) 38)).heap.size (w.alloc (.cells (aqC a) 38)) wx->St o0 w0 G wx k):=fun wx hbx=>h1.below hbx
 have HDo:=(show Hid _ from HD)
 have HTell:Hid (∀ wx,St o0 w0 G wx K->CallsD Tryz.prog 52 #[.pointer (some ⟨G.kp,0,none⟩)] .returning wx fun e u' w'=>u'=.returning/\(e=.returned (.tuple #[])/\St o0 w0 G w' (anew K))):=fun wx hx=>tell_any hx hC hx.kd hS _
 have HG:Hid (doF a.wh=some 116/\W8 a.wh):=⟨hg,hw8⟩
 clear h h1 hf hb hi ht hg hw8 hC hS HD hb0
 go_enter_defers Tryz.func33,Tryz.ntmps33
 go_wp2_with (first
  |(go_at_call 41;refine HTh.mono ?_;rintro e w1 ⟨rfl,rfl⟩)
  |(go_at_call 65;refine HRun.mono ?_;rintro e w1 ⟨rfl,_,b1⟩;have B1:Hid (Below (w.alloc (.cells (aqC a) 38)).heap.size (w.alloc (.cells (aqC a) 38)) w1):=b1;obtain⟨y0,y1,y2,y3,y4⟩:=asked_cells (w:=w) (a:=a) (by rw [←HB.out];exact b1);clear b1))
 go_region_held3 (fun w'=>w'.cell? ⟨w.heap.size,0,none⟩=some (.int .u8 a.wh)) (go_keep) (first
  |(go_at_call 76;refine(doings_any _).mono ?_;rintro e w2 ⟨rfl,fm,b2⟩;have F2:Hid (FMp w2 w1.drew.heap.size 20 doF):=fm;have B2:Hid (Below (w.alloc (.cells (aqC a) 38)).heap.size (w.alloc (.cells (aqC a) 38)) w2):=B1.out.trans (((below_drewN w1 1).trans b2).mono B1.out.size);obtain⟨z0,z1,z2,z3,z4⟩:=asked_cells (w:=w) (a:=a) (by rw [←HB.out];exact B2.out);have hlk:(Instr.lookup 156 (.map (some w1.heap.size)) (.int .u8 a.wh) true).run Tryz.prog w2=.ok (.tuple #[.func (.func 116) #[] #[],.bool true]) w2:=look_run F2.out HG.out.2 HG.out.1;clear b2 fm)
  | fail)
 go_wp2_with (go_at_call 116;refine(HDo.out _ (HSt.out _ B2.out)).mono ?_;rintro e w5 ⟨rfl,h5⟩;have S5:Hid (St o0 w0 G w5 K):=h5;clear h5)
 refine leaves_cons (f:=52) (args:=#[.pointer (some ⟨G.kp,0,none⟩)]) (by simp) (by simp [go_sem]) ?_
 refine(HTell.out _ S5.out).mono ?_
 rintro e u' w'' ⟨rfl,rfl,h9⟩
 exact⟨_,results_tmp2 rfl _ _ _,rfl,h9⟩
theorem ask_sleep(h:St o0 w0 G w k)(hf:Fin k)(hb:Rd.fsb k.rd=true){i:Nat}{t:Ta}(hi:i=(Rd.fsv k.rd).toNat)(ht:k.ts i=some t)(a:Aq)(hg:doF a.wh=some 117)(hw8:W8 a.wh){b:Bool}{er:Int}{K:Kn}(hC:Core K 0 NoD)(hS:SelfK K)
  (HD:∀ wx,St o0 w0 G wx k->Calls Tryz.prog 117 #[.pointer (some ⟨G.kp,0,none⟩),.pointer (some ⟨G.tp i,0,none⟩),aqV a] wx fun e w'=>e=.returned (.tuple #[.bool b,.int .i64 er])/\St o0 w0 G w' K) :
  Calls Tryz.prog 33 #[.pointer (some ⟨G.kp,0,none⟩),aqV a] w fun e w'=>e=.returned (.tuple #[.bool b,.int .i64 er])/\St o0 w0 G w' (anew K):=by
 have hb0:=alloc_below w (.cells (aqC a) 38)
 have h1:=h.below hb0
 have HTh:=there_any h1 h1.slo.1.1
 have HRun:=running_any h1 (run_in h1 (hf.core.nm (by omega)))
 rw [runP_yes hb (by rw [←hi];exact ht),←hi] at HRun
 have HB:Hid ((w.alloc (.cells (aqC a) 38)).heap.size=w.heap.size+1):=alloc_size w _
 have HSt:Hid (∀ wx,Below (w.alloc (.cells (aqC a) 38)).heap.size (w.alloc (.cells (aqC a) 38)) wx->St o0 w0 G wx k):=fun wx hbx=>h1.below hbx
 have HDo:=(show Hid _ from HD)
 have HTell:Hid (∀ wx,St o0 w0 G wx K->CallsD Tryz.prog 52 #[.pointer (some ⟨G.kp,0,none⟩)] .returning wx fun e u' w'=>u'=.returning/\(e=.returned (.tuple #[])/\St o0 w0 G w' (anew K))):=fun wx hx=>tell_any hx hC hx.kd hS _
 have HG:Hid (doF a.wh=some 117/\W8 a.wh):=⟨hg,hw8⟩
 clear h h1 hf hb hi ht hg hw8 hC hS HD hb0
 go_enter_defers Tryz.func33,Tryz.ntmps33
 go_wp2_with (first
  |(go_at_call 41;refine HTh.mono ?_;rintro e w1 ⟨rfl,rfl⟩)
  |(go_at_call 65;refine HRun.mono ?_;rintro e w1 ⟨rfl,_,b1⟩;have B1:Hid (Below (w.alloc (.cells (aqC a) 38)).heap.size (w.alloc (.cells (aqC a) 38)) w1):=b1;obtain⟨y0,y1,y2,y3,y4⟩:=asked_cells (w:=w) (a:=a) (by rw [←HB.out];exact b1);clear b1))
 go_region_held3 (fun w'=>w'.cell? ⟨w.heap.size,0,none⟩=some (.int .u8 a.wh)) (go_keep) (first
  |(go_at_call 76;refine(doings_any _).mono ?_;rintro e w2 ⟨rfl,fm,b2⟩;have F2:Hid (FMp w2 w1.drew.heap.size 20 doF):=fm;have B2:Hid (Below (w.alloc (.cells (aqC a) 38)).heap.size (w.alloc (.cells (aqC a) 38)) w2):=B1.out.trans (((below_drewN w1 1).trans b2).mono B1.out.size);obtain⟨z0,z1,z2,z3,z4⟩:=asked_cells (w:=w) (a:=a) (by rw [←HB.out];exact B2.out);have hlk:(Instr.lookup 156 (.map (some w1.heap.size)) (.int .u8 a.wh) true).run Tryz.prog w2=.ok (.tuple #[.func (.func 117) #[] #[],.bool true]) w2:=look_run F2.out HG.out.2 HG.out.1;clear b2 fm)
  | fail)
 go_wp2_with (go_at_call 117;refine(HDo.out _ (HSt.out _ B2.out)).mono ?_;rintro e w5 ⟨rfl,h5⟩;have S5:Hid (St o0 w0 G w5 K):=h5;clear h5)
 refine leaves_cons (f:=52) (args:=#[.pointer (some ⟨G.kp,0,none⟩)]) (by simp) (by simp [go_sem]) ?_
 refine(HTell.out _ S5.out).mono ?_
 rintro e u' w'' ⟨rfl,rfl,h9⟩
 exact⟨_,results_tmp2 rfl _ _ _,rfl,h9⟩
theorem ask_try(h:St o0 w0 G w k)(hf:Fin k)(hb:Rd.fsb k.rd=true){i:Nat}{t:Ta}(hi:i=(Rd.fsv k.rd).toNat)(ht:k.ts i=some t)(a:Aq)(hg:doF a.wh=some 118)(hw8:W8 a.wh){b:Bool}{er:Int}{K:Kn}(hC:Core K 0 NoD)(hS:SelfK K)
  (HD:∀ wx,St o0 w0 G wx k->Calls Tryz.prog 118 #[.pointer (some ⟨G.kp,0,none⟩),.pointer (some ⟨G.tp i,0,none⟩),aqV a] wx fun e w'=>e=.returned (.tuple #[.bool b,.int .i64 er])/\St o0 w0 G w' K) :
  Calls Tryz.prog 33 #[.pointer (some ⟨G.kp,0,none⟩),aqV a] w fun e w'=>e=.returned (.tuple #[.bool b,.int .i64 er])/\St o0 w0 G w' (anew K):=by
 have hb0:=alloc_below w (.cells (aqC a) 38)
 have h1:=h.below hb0
 have HTh:=there_any h1 h1.slo.1.1
 have HRun:=running_any h1 (run_in h1 (hf.core.nm (by omega)))
 rw [runP_yes hb (by rw [←hi];exact ht),←hi] at HRun
 have HB:Hid ((w.alloc (.cells (aqC a) 38)).heap.size=w.heap.size+1):=alloc_size w _
 have HSt:Hid (∀ wx,Below (w.alloc (.cells (aqC a) 38)).heap.size (w.alloc (.cells (aqC a) 38)) wx->St o0 w0 G wx k):=fun wx hbx=>h1.below hbx
 have HDo:=(show Hid _ from HD)
 have HTell:Hid (∀ wx,St o0 w0 G wx K->CallsD Tryz.prog 52 #[.pointer (some ⟨G.kp,0,none⟩)] .returning wx fun e u' w'=>u'=.returning/\(e=.returned (.tuple #[])/\St o0 w0 G w' (anew K))):=fun wx hx=>tell_any hx hC hx.kd hS _
 have HG:Hid (doF a.wh=some 118/\W8 a.wh):=⟨hg,hw8⟩
 clear h h1 hf hb hi ht hg hw8 hC hS HD hb0
 go_enter_defers Tryz.func33,Tryz.ntmps33
 go_wp2_with (first
  |(go_at_call 41;refine HTh.mono ?_;rintro e w1 ⟨rfl,rfl⟩)
  |(go_at_call 65;refine HRun.mono ?_;rintro e w1 ⟨rfl,_,b1⟩;have B1:Hid (Below (w.alloc (.cells (aqC a) 38)).heap.size (w.alloc (.cells (aqC a) 38)) w1):=b1;obtain⟨y0,y1,y2,y3,y4⟩:=asked_cells (w:=w) (a:=a) (by rw [←HB.out];exact b1);clear b1))
 go_region_held3 (fun w'=>w'.cell? ⟨w.heap.size,0,none⟩=some (.int .u8 a.wh)) (go_keep) (first
  |(go_at_call 76;refine(doings_any _).mono ?_;rintro e w2 ⟨rfl,fm,b2⟩;have F2:Hid (FMp w2 w1.drew.heap.size 20 doF):=fm;have B2:Hid (Below (w.alloc (.cells (aqC a) 38)).heap.size (w.alloc (.cells (aqC a) 38)) w2):=B1.out.trans (((below_drewN w1 1).trans b2).mono B1.out.size);obtain⟨z0,z1,z2,z3,z4⟩:=asked_cells (w:=w) (a:=a) (by rw [←HB.out];exact B2.out);have hlk:(Instr.lookup 156 (.map (some w1.heap.size)) (.int .u8 a.wh) true).run Tryz.prog w2=.ok (.tuple #[.func (.func 118) #[] #[],.bool true]) w2:=look_run F2.out HG.out.2 HG.out.1;clear b2 fm)
  | fail)
 go_wp2_with (go_at_call 118;refine(HDo.out _ (HSt.out _ B2.out)).mono ?_;rintro e w5 ⟨rfl,h5⟩;have S5:Hid (St o0 w0 G w5 K):=h5;clear h5)
 refine leaves_cons (f:=52) (args:=#[.pointer (some ⟨G.kp,0,none⟩)]) (by simp) (by simp [go_sem]) ?_
 refine(HTell.out _ S5.out).mono ?_
 rintro e u' w'' ⟨rfl,rfl,h9⟩
 exact⟨_,results_tmp2 rfl _ _ _,rfl,h9⟩
theorem ask_start(h:St o0 w0 G w k)(hf:Fin k)(hb:Rd.fsb k.rd=true){i:Nat}{t:Ta}(hi:i=(Rd.fsv k.rd).toNat)(ht:k.ts i=some t)(a:Aq)(hg:doF a.wh=some 119)(hw8:W8 a.wh){b:Bool}{er:Int}{K:Kn}(hC:Core K 0 NoD)(hS:SelfK K)
  (HD:∀ wx,St o0 w0 G wx k->Calls Tryz.prog 119 #[.pointer (some ⟨G.kp,0,none⟩),.pointer (some ⟨G.tp i,0,none⟩),aqV a] wx fun e w'=>e=.returned (.tuple #[.bool b,.int .i64 er])/\St o0 w0 (Geo.anS G) w' K) :
  Calls Tryz.prog 33 #[.pointer (some ⟨G.kp,0,none⟩),aqV a] w fun e w'=>e=.returned (.tuple #[.bool b,.int .i64 er])/\St o0 w0 (Geo.anS G) w' (anew K):=by
 have hb0:=alloc_below w (.cells (aqC a) 38)
 have h1:=h.below hb0
 have HTh:=there_any h1 h1.slo.1.1
 have HRun:=running_any h1 (run_in h1 (hf.core.nm (by omega)))
 rw [runP_yes hb (by rw [←hi];exact ht),←hi] at HRun
 have HB:Hid ((w.alloc (.cells (aqC a) 38)).heap.size=w.heap.size+1):=alloc_size w _
 have HSt:Hid (∀ wx,Below (w.alloc (.cells (aqC a) 38)).heap.size (w.alloc (.cells (aqC a) 38)) wx->St o0 w0 G wx k):=fun wx hbx=>h1.below hbx
 have HDo:=(show Hid _ from HD)
 have HTell:Hid (∀ wx,St o0 w0 (Geo.anS G) wx K->CallsD Tryz.prog 52 #[.pointer (some ⟨G.kp,0,none⟩)] .returning wx fun e u' w'=>u'=.returning/\(e=.returned (.tuple #[])/\St o0 w0 (Geo.anS G) w' (anew K))):=fun wx hx=>tell_any hx hC hx.kd hS _
 have HG:Hid (doF a.wh=some 119/\W8 a.wh):=⟨hg,hw8⟩
 clear h h1 hf hb hi ht hg hw8 hC hS HD hb0
 go_enter_defers Tryz.func33,Tryz.ntmps33
 go_wp2_with (first
  |(go_at_call 41;refine HTh.mono ?_;rintro e w1 ⟨rfl,rfl⟩)
  |(go_at_call 65;refine HRun.mono ?_;rintro e w1 ⟨rfl,_,b1⟩;have B1:Hid (Below (w.alloc (.cells (aqC a) 38)).heap.size (w.alloc (.cells (aqC a) 38)) w1):=b1;obtain⟨y0,y1,y2,y3,y4⟩:=asked_cells (w:=w) (a:=a) (by rw [←HB.out];exact b1);clear b1))
 go_region_held3 (fun w'=>w'.cell? ⟨w.heap.size,0,none⟩=some (.int .u8 a.wh)) (go_keep) (first
  |(go_at_call 76;refine(doings_any _).mono ?_;rintro e w2 ⟨rfl,fm,b2⟩;have F2:Hid (FMp w2 w1.drew.heap.size 20 doF):=fm;have B2:Hid (Below (w.alloc (.cells (aqC a) 38)).heap.size (w.alloc (.cells (aqC a) 38)) w2):=B1.out.trans (((below_drewN w1 1).trans b2).mono B1.out.size);obtain⟨z0,z1,z2,z3,z4⟩:=asked_cells (w:=w) (a:=a) (by rw [←HB.out];exact B2.out);have hlk:(Instr.lookup 156 (.map (some w1.heap.size)) (.int .u8 a.wh) true).run Tryz.prog w2=.ok (.tuple #[.func (.func 119) #[] #[],.bool true]) w2:=look_run F2.out HG.out.2 HG.out.1;clear b2 fm)
  | fail)
 go_wp2_with (go_at_call 119;refine(HDo.out _ (HSt.out _ B2.out)).mono ?_;rintro e w5 ⟨rfl,h5⟩;have S5:Hid (St o0 w0 (Geo.anS G) w5 K):=h5;clear h5)
 refine leaves_cons (f:=52) (args:=#[.pointer (some ⟨G.kp,0,none⟩)]) (by simp) (by simp [go_sem]) ?_
 refine(HTell.out _ S5.out).mono ?_
 rintro e u' w'' ⟨rfl,rfl,h9⟩
 exact⟨_,results_tmp2 rfl _ _ _,rfl,h9⟩
theorem ask_stop(h:St o0 w0 G w k)(hf:Fin k)(hb:Rd.fsb k.rd=true){i:Nat}{t:Ta}(hi:i=(Rd.fsv k.rd).toNat)(ht:k.ts i=some t)(a:Aq)(hg:doF a.wh=some 120)(hw8:W8 a.wh){b:Bool}{er:Int}{K:Kn}(hC:Core K 0 NoD)(hS:SelfK K)
  (HD:∀ wx,St o0 w0 G wx k->Calls Tryz.prog 120 #[.pointer (some ⟨G.kp,0,none⟩),.pointer (some ⟨G.tp i,0,none⟩),aqV a] wx fun e w'=>e=.returned (.tuple #[.bool b,.int .i64 er])/\St o0 w0 G w' K) :
  Calls Tryz.prog 33 #[.pointer (some ⟨G.kp,0,none⟩),aqV a] w fun e w'=>e=.returned (.tuple #[.bool b,.int .i64 er])/\St o0 w0 G w' (anew K):=by
 have hb0:=alloc_below w (.cells (aqC a) 38)
 have h1:=h.below hb0
 have HTh:=there_any h1 h1.slo.1.1
 have HRun:=running_any h1 (run_in h1 (hf.core.nm (by omega)))
 rw [runP_yes hb (by rw [←hi];exact ht),←hi] at HRun
 have HB:Hid ((w.alloc (.cells (aqC a) 38)).heap.size=w.heap.size+1):=alloc_size w _
 have HSt:Hid (∀ wx,Below (w.alloc (.cells (aqC a) 38)).heap.size (w.alloc (.cells (aqC a) 38)) wx->St o0 w0 G wx k):=fun wx hbx=>h1.below hbx
 have HDo:=(show Hid _ from HD)
 have HTell:Hid (∀ wx,St o0 w0 G wx K->CallsD Tryz.prog 52 #[.pointer (some ⟨G.kp,0,none⟩)] .returning wx fun e u' w'=>u'=.returning/\(e=.returned (.tuple #[])/\St o0 w0 G w' (anew K))):=fun wx hx=>tell_any hx hC hx.kd hS _
 have HG:Hid (doF a.wh=some 120/\W8 a.wh):=⟨hg,hw8⟩
 clear h h1 hf hb hi ht hg hw8 hC hS HD hb0
 go_enter_defers Tryz.func33,Tryz.ntmps33
 go_wp2_with (first
  |(go_at_call 41;refine HTh.mono ?_;rintro e w1 ⟨rfl,rfl⟩)
  |(go_at_call 65;refine HRun.mono ?_;rintro e w1 ⟨rfl,_,b1⟩;have B1:Hid (Below (w.alloc (.cells (aqC a) 38)).heap.size (w.alloc (.cells (aqC a) 38)) w1):=b1;obtain⟨y0,y1,y2,y3,y4⟩:=asked_cells (w:=w) (a:=a) (by rw [←HB.out];exact b1);clear b1))
 go_region_held3 (fun w'=>w'.cell? ⟨w.heap.size,0,none⟩=some (.int .u8 a.wh)) (go_keep) (first
  |(go_at_call 76;refine(doings_any _).mono ?_;rintro e w2 ⟨rfl,fm,b2⟩;have F2:Hid (FMp w2 w1.drew.heap.size 20 doF):=fm;have B2:Hid (Below (w.alloc (.cells (aqC a) 38)).heap.size (w.alloc (.cells (aqC a) 38)) w2):=B1.out.trans (((below_drewN w1 1).trans b2).mono B1.out.size);obtain⟨z0,z1,z2,z3,z4⟩:=asked_cells (w:=w) (a:=a) (by rw [←HB.out];exact B2.out);have hlk:(Instr.lookup 156 (.map (some w1.heap.size)) (.int .u8 a.wh) true).run Tryz.prog w2=.ok (.tuple #[.func (.func 120) #[] #[],.bool true]) w2:=look_run F2.out HG.out.2 HG.out.1;clear b2 fm)
  | fail)
 go_wp2_with (go_at_call 120;refine(HDo.out _ (HSt.out _ B2.out)).mono ?_;rintro e w5 ⟨rfl,h5⟩;have S5:Hid (St o0 w0 G w5 K):=h5;clear h5)
 refine leaves_cons (f:=52) (args:=#[.pointer (some ⟨G.kp,0,none⟩)]) (by simp) (by simp [go_sem]) ?_
 refine(HTell.out _ S5.out).mono ?_
 rintro e u' w'' ⟨rfl,rfl,h9⟩
 exact⟨_,results_tmp2 rfl _ _ _,rfl,h9⟩
theorem ask_setBase(h:St o0 w0 G w k)(hf:Fin k)(hb:Rd.fsb k.rd=true){i:Nat}{t:Ta}(hi:i=(Rd.fsv k.rd).toNat)(ht:k.ts i=some t)(a:Aq)(hg:doF a.wh=some 121)(hw8:W8 a.wh){b:Bool}{er:Int}{K:Kn}(hC:Core K 0 NoD)(hS:SelfK K)
  (HD:∀ wx,St o0 w0 G wx k->Calls Tryz.prog 121 #[.pointer (some ⟨G.kp,0,none⟩),.pointer (some ⟨G.tp i,0,none⟩),aqV a] wx fun e w'=>e=.returned (.tuple #[.bool b,.int .i64 er])/\St o0 w0 G w' K) :
  Calls Tryz.prog 33 #[.pointer (some ⟨G.kp,0,none⟩),aqV a] w fun e w'=>e=.returned (.tuple #[.bool b,.int .i64 er])/\St o0 w0 G w' (anew K):=by
 have hb0:=alloc_below w (.cells (aqC a) 38)
 have h1:=h.below hb0
 have HTh:=there_any h1 h1.slo.1.1
 have HRun:=running_any h1 (run_in h1 (hf.core.nm (by omega)))
 rw [runP_yes hb (by rw [←hi];exact ht),←hi] at HRun
 have HB:Hid ((w.alloc (.cells (aqC a) 38)).heap.size=w.heap.size+1):=alloc_size w _
 have HSt:Hid (∀ wx,Below (w.alloc (.cells (aqC a) 38)).heap.size (w.alloc (.cells (aqC a) 38)) wx->St o0 w0 G wx k):=fun wx hbx=>h1.below hbx
 have HDo:=(show Hid _ from HD)
 have HTell:Hid (∀ wx,St o0 w0 G wx K->CallsD Tryz.prog 52 #[.pointer (some ⟨G.kp,0,none⟩)] .returning wx fun e u' w'=>u'=.returning/\(e=.returned (.tuple #[])/\St o0 w0 G w' (anew K))):=fun wx hx=>tell_any hx hC hx.kd hS _
 have HG:Hid (doF a.wh=some 121/\W8 a.wh):=⟨hg,hw8⟩
 clear h h1 hf hb hi ht hg hw8 hC hS HD hb0
 go_enter_defers Tryz.func33,Tryz.ntmps33
 go_wp2_with (first
  |(go_at_call 41;refine HTh.mono ?_;rintro e w1 ⟨rfl,rfl⟩)
  |(go_at_call 65;refine HRun.mono ?_;rintro e w1 ⟨rfl,_,b1⟩;have B1:Hid (Below (w.alloc (.cells (aqC a) 38)).heap.size (w.alloc (.cells (aqC a) 38)) w1):=b1;obtain⟨y0,y1,y2,y3,y4⟩:=asked_cells (w:=w) (a:=a) (by rw [←HB.out];exact b1);clear b1))
 go_region_held3 (fun w'=>w'.cell? ⟨w.heap.size,0,none⟩=some (.int .u8 a.wh)) (go_keep) (first
  |(go_at_call 76;refine(doings_any _).mono ?_;rintro e w2 ⟨rfl,fm,b2⟩;have F2:Hid (FMp w2 w1.drew.heap.size 20 doF):=fm;have B2:Hid (Below (w.alloc (.cells (aqC a) 38)).heap.size (w.alloc (.cells (aqC a) 38)) w2):=B1.out.trans (((below_drewN w1 1).trans b2).mono B1.out.size);obtain⟨z0,z1,z2,z3,z4⟩:=asked_cells (w:=w) (a:=a) (by rw [←HB.out];exact B2.out);have hlk:(Instr.lookup 156 (.map (some w1.heap.size)) (.int .u8 a.wh) true).run Tryz.prog w2=.ok (.tuple #[.func (.func 121) #[] #[],.bool true]) w2:=look_run F2.out HG.out.2 HG.out.1;clear b2 fm)
  | fail)
 go_wp2_with (go_at_call 121;refine(HDo.out _ (HSt.out _ B2.out)).mono ?_;rintro e w5 ⟨rfl,h5⟩;have S5:Hid (St o0 w0 G w5 K):=h5;clear h5)
 refine leaves_cons (f:=52) (args:=#[.pointer (some ⟨G.kp,0,none⟩)]) (by simp) (by simp [go_sem]) ?_
 refine(HTell.out _ S5.out).mono ?_
 rintro e u' w'' ⟨rfl,rfl,h9⟩
 exact⟨_,results_tmp2 rfl _ _ _,rfl,h9⟩
theorem ask_tellNow(h:St o0 w0 G w k)(hf:Fin k)(hb:Rd.fsb k.rd=true){i:Nat}{t:Ta}(hi:i=(Rd.fsv k.rd).toNat)(ht:k.ts i=some t)(a:Aq)(hg:doF a.wh=some 122)(hw8:W8 a.wh){b:Bool}{er:Int}{K:Kn}(hC:Core K 0 NoD)(hS:SelfK K)
  (HD:∀ wx,St o0 w0 G wx k->Calls Tryz.prog 122 #[.pointer (some ⟨G.kp,0,none⟩),.pointer (some ⟨G.tp i,0,none⟩),aqV a] wx fun e w'=>e=.returned (.tuple #[.bool b,.int .i64 er])/\St o0 w0 G w' K) :
  Calls Tryz.prog 33 #[.pointer (some ⟨G.kp,0,none⟩),aqV a] w fun e w'=>e=.returned (.tuple #[.bool b,.int .i64 er])/\St o0 w0 G w' (anew K):=by
 have hb0:=alloc_below w (.cells (aqC a) 38)
 have h1:=h.below hb0
 have HTh:=there_any h1 h1.slo.1.1
 have HRun:=running_any h1 (run_in h1 (hf.core.nm (by omega)))
 rw [runP_yes hb (by rw [←hi];exact ht),←hi] at HRun
 have HB:Hid ((w.alloc (.cells (aqC a) 38)).heap.size=w.heap.size+1):=alloc_size w _
 have HSt:Hid (∀ wx,Below (w.alloc (.cells (aqC a) 38)).heap.size (w.alloc (.cells (aqC a) 38)) wx->St o0 w0 G wx k):=fun wx hbx=>h1.below hbx
 have HDo:=(show Hid _ from HD)
 have HTell:Hid (∀ wx,St o0 w0 G wx K->CallsD Tryz.prog 52 #[.pointer (some ⟨G.kp,0,none⟩)] .returning wx fun e u' w'=>u'=.returning/\(e=.returned (.tuple #[])/\St o0 w0 G w' (anew K))):=fun wx hx=>tell_any hx hC hx.kd hS _
 have HG:Hid (doF a.wh=some 122/\W8 a.wh):=⟨hg,hw8⟩
 clear h h1 hf hb hi ht hg hw8 hC hS HD hb0
 go_enter_defers Tryz.func33,Tryz.ntmps33
 go_wp2_with (first
  |(go_at_call 41;refine HTh.mono ?_;rintro e w1 ⟨rfl,rfl⟩)
  |(go_at_call 65;refine HRun.mono ?_;rintro e w1 ⟨rfl,_,b1⟩;have B1:Hid (Below (w.alloc (.cells (aqC a) 38)).heap.size (w.alloc (.cells (aqC a) 38)) w1):=b1;obtain⟨y0,y1,y2,y3,y4⟩:=asked_cells (w:=w) (a:=a) (by rw [←HB.out];exact b1);clear b1))
 go_region_held3 (fun w'=>w'.cell? ⟨w.heap.size,0,none⟩=some (.int .u8 a.wh)) (go_keep) (first
  |(go_at_call 76;refine(doings_any _).mono ?_;rintro e w2 ⟨rfl,fm,b2⟩;have F2:Hid (FMp w2 w1.drew.heap.size 20 doF):=fm;have B2:Hid (Below (w.alloc (.cells (aqC a) 38)).heap.size (w.alloc (.cells (aqC a) 38)) w2):=B1.out.trans (((below_drewN w1 1).trans b2).mono B1.out.size);obtain⟨z0,z1,z2,z3,z4⟩:=asked_cells (w:=w) (a:=a) (by rw [←HB.out];exact B2.out);have hlk:(Instr.lookup 156 (.map (some w1.heap.size)) (.int .u8 a.wh) true).run Tryz.prog w2=.ok (.tuple #[.func (.func 122) #[] #[],.bool true]) w2:=look_run F2.out HG.out.2 HG.out.1;clear b2 fm)
  | fail)
 go_wp2_with (go_at_call 122;refine(HDo.out _ (HSt.out _ B2.out)).mono ?_;rintro e w5 ⟨rfl,h5⟩;have S5:Hid (St o0 w0 G w5 K):=h5;clear h5)
 refine leaves_cons (f:=52) (args:=#[.pointer (some ⟨G.kp,0,none⟩)]) (by simp) (by simp [go_sem]) ?_
 refine(HTell.out _ S5.out).mono ?_
 rintro e u' w'' ⟨rfl,rfl,h9⟩
 exact⟨_,results_tmp2 rfl _ _ _,rfl,h9⟩
theorem ask_endSelf(h:St o0 w0 G w k)(hf:Fin k)(hb:Rd.fsb k.rd=true){i:Nat}{t:Ta}(hi:i=(Rd.fsv k.rd).toNat)(ht:k.ts i=some t)(a:Aq)(hg:doF a.wh=some 123)(hw8:W8 a.wh){b:Bool}{er:Int}{K:Kn}(hC:Core K 0 NoD)(hS:SelfK K)
  (HD:∀ wx,St o0 w0 G wx k->Calls Tryz.prog 123 #[.pointer (some ⟨G.kp,0,none⟩),.pointer (some ⟨G.tp i,0,none⟩),aqV a] wx fun e w'=>e=.returned (.tuple #[.bool b,.int .i64 er])/\St o0 w0 G w' K) :
  Calls Tryz.prog 33 #[.pointer (some ⟨G.kp,0,none⟩),aqV a] w fun e w'=>e=.returned (.tuple #[.bool b,.int .i64 er])/\St o0 w0 G w' (anew K):=by
 have hb0:=alloc_below w (.cells (aqC a) 38)
 have h1:=h.below hb0
 have HTh:=there_any h1 h1.slo.1.1
 have HRun:=running_any h1 (run_in h1 (hf.core.nm (by omega)))
 rw [runP_yes hb (by rw [←hi];exact ht),←hi] at HRun
 have HB:Hid ((w.alloc (.cells (aqC a) 38)).heap.size=w.heap.size+1):=alloc_size w _
 have HSt:Hid (∀ wx,Below (w.alloc (.cells (aqC a) 38)).heap.size (w.alloc (.cells (aqC a) 38)) wx->St o0 w0 G wx k):=fun wx hbx=>h1.below hbx
 have HDo:=(show Hid _ from HD)
 have HTell:Hid (∀ wx,St o0 w0 G wx K->CallsD Tryz.prog 52 #[.pointer (some ⟨G.kp,0,none⟩)] .returning wx fun e u' w'=>u'=.returning/\(e=.returned (.tuple #[])/\St o0 w0 G w' (anew K))):=fun wx hx=>tell_any hx hC hx.kd hS _
 have HG:Hid (doF a.wh=some 123/\W8 a.wh):=⟨hg,hw8⟩
 clear h h1 hf hb hi ht hg hw8 hC hS HD hb0
 go_enter_defers Tryz.func33,Tryz.ntmps33
 go_wp2_with (first
  |(go_at_call 41;refine HTh.mono ?_;rintro e w1 ⟨rfl,rfl⟩)
  |(go_at_call 65;refine HRun.mono ?_;rintro e w1 ⟨rfl,_,b1⟩;have B1:Hid (Below (w.alloc (.cells (aqC a) 38)).heap.size (w.alloc (.cells (aqC a) 38)) w1):=b1;obtain⟨y0,y1,y2,y3,y4⟩:=asked_cells (w:=w) (a:=a) (by rw [←HB.out];exact b1);clear b1))
 go_region_held3 (fun w'=>w'.cell? ⟨w.heap.size,0,none⟩=some (.int .u8 a.wh)) (go_keep) (first
  |(go_at_call 76;refine(doings_any _).mono ?_;rintro e w2 ⟨rfl,fm,b2⟩;have F2:Hid (FMp w2 w1.drew.heap.size 20 doF):=fm;have B2:Hid (Below (w.alloc (.cells (aqC a) 38)).heap.size (w.alloc (.cells (aqC a) 38)) w2):=B1.out.trans (((below_drewN w1 1).trans b2).mono B1.out.size);obtain⟨z0,z1,z2,z3,z4⟩:=asked_cells (w:=w) (a:=a) (by rw [←HB.out];exact B2.out);have hlk:(Instr.lookup 156 (.map (some w1.heap.size)) (.int .u8 a.wh) true).run Tryz.prog w2=.ok (.tuple #[.func (.func 123) #[] #[],.bool true]) w2:=look_run F2.out HG.out.2 HG.out.1;clear b2 fm)
  | fail)
 go_wp2_with (go_at_call 123;refine(HDo.out _ (HSt.out _ B2.out)).mono ?_;rintro e w5 ⟨rfl,h5⟩;have S5:Hid (St o0 w0 G w5 K):=h5;clear h5)
 refine leaves_cons (f:=52) (args:=#[.pointer (some ⟨G.kp,0,none⟩)]) (by simp) (by simp [go_sem]) ?_
 refine(HTell.out _ S5.out).mono ?_
 rintro e u' w'' ⟨rfl,rfl,h9⟩
 exact⟨_,results_tmp2 rfl _ _ _,rfl,h9⟩
end
end Go.Proofs.YtbbdndfibjdcfaaGreat
