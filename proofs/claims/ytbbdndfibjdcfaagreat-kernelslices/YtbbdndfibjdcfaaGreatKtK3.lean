/- Package kernel, proved: part KtK3. No law of the program itself. -/
import Derived.BigQuiet
import Derived.Test.YtbbdndfibjdcfaaGreatKtK1
import Derived.Test.YtbbdndfibjdcfaaGreatKtK2
import Derived.Test.YtbbdndfibjdcfaaGreatKtA1
set_option maxRecDepth 100000
set_option linter.all false
set_option maxHeartbeats 16000000
namespace Go.Proofs.YtbbdndfibjdcfaaGreat
open Go Go.RowKit
section
variable {o0:Nat->Nat} {w0 w w':World} {G:Geo} {k:Kn}
theorem St.setNow(h:St o0 w0 G w k){now:Int}(hw:0<=now/\now < 4294967296):St o0 w0 G (w.setCell ⟨G.kp,1,none⟩ (.int .u32 now)) { k with now:=now }:=by
 obtain⟨own,h,x⟩:=h
 obtain⟨ho,hc⟩:=h.kern (by decide)
 have hb:Off own 1 w (w.setCell ⟨G.kp,1,none⟩ (.int .u32 now)):=off_cell w 1 _ ho
 have hc2:=set_block hc 1 (.int .u32 now)
 exact⟨_,(h.off hb).shutKern hw ((ext_cl (Cl.of hc2) (at_lt hc)).trans ho) hc2,x.trans (hb.ext (by decide))⟩
theorem St.kt(h:St o0 w0 G w k){i:Nat}{t:Ta}(ht:k.ts i=some t):G.kp≠G.tp i:=fun e=>by
 obtain⟨own,h,x⟩:=h
 have h1:=(h.kern (by decide)).1
 have h2:=(h.task i t ht (by omega)).1
 rw [e] at h1
 omega
theorem slice0{k:Kn}(h:Fin k):Core (slice1 { k with now:=(k.now+1) % 4294967296 }) 0 NoD/\SelfK (slice1 { k with now:=(k.now+1) % 4294967296 }):=by
 have hc:=(h.core.now ((k.now+1) % 4294967296))
 exact⟨Core.slice1 hc,SelfK.mono (k:={ k with now:=(k.now+1) % 4294967296 }) h.self (mono_slice1 _)⟩
theorem wrap32_1{n:Int}(h:0<=n/\n < 4294967296):IntKind.u32.wrap (n+1)=(n+1) % 4294967296:=by
 simp [IntKind.wrap,IntKind.bits,IntKind.signed]
theorem runP_no{G:Geo}{k:Kn}(h:Rd.fsb k.rd=false):runP G k=.pointer none:=by unfold runP;rw [h];rfl
theorem runP_yes{G:Geo}{k:Kn}(h:Rd.fsb k.rd=true){t:Ta}(ht:k.ts (Rd.fsv k.rd).toNat=some t):runP G k=.pointer (some ⟨G.tp (Rd.fsv k.rd).toNat,0,none⟩):=by unfold runP;rw [h,if_pos rfl,tPt_at ht]
theorem run_in(h:St o0 w0 G w k)(hn:Nm k):Rd.fsb k.rd=true->0<=Rd.fsv k.rd/\Rd.fsv k.rd < 16:=fun hb=>by
 obtain⟨i,t,e,ht⟩:=hn.run hb
 have:=h.ti ht
 omega
theorem pass_any(h:St o0 w0 G w k)(hf:Fin k)(hran:∀ i t,k.ts i=some t->0<=t.ran/\t.ran<=1000000000):Calls Tryz.prog 44 #[.pointer (some ⟨G.kp,0,none⟩)] w fun e w'=>e=.returned (.tuple #[])/\St o0 w0 G w' (anew (slice1 { k with now:=(k.now+1) % 4294967296 })):=by
 have hw:=h.slo.2
 obtain⟨hc0,hs0⟩:=slice0 hf
 have HTell:Hid (∀ wx,St o0 w0 G wx (slice1 { k with now:=(k.now+1) % 4294967296 })->CallsD Tryz.prog 52 #[.pointer (some ⟨G.kp,0,none⟩)] .returning wx fun e u' w'=>u'=.returning/\(e=.returned (.tuple #[])/\St o0 w0 G w' (anew (slice1 { k with now:=(k.now+1) % 4294967296 })))):=fun wx hx=>tell_any hx hc0 hx.kd hs0 _
 have HW:Hid (IntKind.u32.wrap (k.now+1)=(k.now+1) % 4294967296):=wrap32_1 hw
 have S0:Hid (St o0 w0 G (w.setCell ⟨G.kp,1,none⟩ (.int .u32 ((k.now+1) % 4294967296))) { k with now:=(k.now+1) % 4294967296 }):=h.setNow (by omega)
 have hnm:=(hf.core.now ((k.now+1) % 4294967296)).nm (by omega)
 have c1:=h.c1
 have f1:=h.kfree 1
 have HRun:=running_any S0.out (run_in (k:={ k with now:=(k.now+1) % 4294967296 }) S0.out hnm)
 have hsl:=h.slo.1
 cases hb:Rd.fsb k.rd with
 | false =>
  have e:slice1 { k with now:=(k.now+1) % 4294967296 }={ k with now:=(k.now+1) % 4294967296 }:=by unfold slice1;simp only [hb];rfl
  rw [e] at HTell ⊢
  rw [runP_no (show Rd.fsb ({ k with now:=(k.now+1) % 4294967296 }:Kn).rd=false from hb)] at HRun
  clear hc0 hs0 hnm e h hf hran hb
  go_enter_defers Tryz.func44,Tryz.ntmps44
  go_wp2_with (first
   |(go_at_call 65;refine HRun.mono ?_;rintro e w1 ⟨rfl,h1,b1⟩;have S1:Hid (St o0 w0 G w1 { k with now:=(k.now+1) % 4294967296 }):=h1;clear h1 b1))
  refine leaves_cons (f:=52) (args:=#[.pointer (some ⟨G.kp,0,none⟩)]) (by simp) (by simp [go_sem]) ?_
  refine(HTell.out _ S1.out).mono ?_
  rintro e u' w'' ⟨rfl,rfl,h9⟩
  exact⟨_,results_none rfl _ _ _,rfl,h9⟩
 | true =>
  obtain⟨t,r,_,_,_,ht,hst,hhe,_⟩:=hf.core.first hb
  obtain⟨hr0,hr1⟩:=hran _ t ht
  rw [runP_yes (show Rd.fsb ({ k with now:=(k.now+1) % 4294967296 }:Kn).rd=true from hb) ht] at HRun
  have HT:Hid (k.ts (Rd.fsv k.rd).toNat=some t):=ht
  have hwk:IntKind.i64.wrap (t.ran+1)=t.ran+1:=by rw [IntKind.wrap_i64];omega
  have hwk2:wrap64 (t.ran+1)=t.ran+1:=by unfold wrap64;omega
  have hmay:t.may=true:=may_iff.2 ⟨hst,hhe⟩
  have hne:=h.kt ht
  by_cases hsl2:k.sl<=t.ran+1
  ·have e:slice1 { k with now:=(k.now+1) % 4294967296 }=joinC (Kn.setT { k with now:=(k.now+1) % 4294967296 } (Rd.fsv k.rd).toNat { t with ran:=t.ran+1 }) (Rd.fsv k.rd).toNat:=by
    unfold slice1
    rw [joinC_eq (setT_at _ _ _),show Ta.may { t with ran:=t.ran+1 }=t.may from rfl,hmay]
    simp only [hb,if_true,ht,if_pos hsl2]
   rw [e] at HTell ⊢
   clear hc0 hs0 hnm e h hf hran hb ht
   generalize (Rd.fsv k.rd).toNat=i at *
   go_enter_defers Tryz.func44,Tryz.ntmps44
   go_wp2_with (first
    |(go_at_call 65;refine HRun.mono ?_;rintro e w1 ⟨rfl,h1,b1⟩;have S1:Hid (St o0 w0 G w1 { k with now:=(k.now+1) % 4294967296 }):=h1;have y15:=h1.d15 HT.out;have f15:=h1.tfree HT.out 15;have S2:Hid (St o0 w0 G (w1.setCell ⟨G.tp i,15,none⟩ (.int .i64 (t.ran+1))) (Kn.setT { k with now:=(k.now+1) % 4294967296 } i { t with ran:=t.ran+1 })):=h1.setT HT.out 15 _ _ rfl rfl rfl;have v0:(w1.setCell ⟨G.tp i,15,none⟩ (.int .i64 (t.ran+1))).cell? ⟨G.kp,0,none⟩=some (.int .i64 k.sl):=S2.out.c0;have y0:w1.cell? ⟨G.kp,0,none⟩=some (.int .i64 k.sl):=h1.c0;have v15:=S2.out.d15 (setT_at _ i _);clear h1 b1))
   go_region_held3 (fun w'=>w'.cell? ⟨G.kp,0,none⟩=some (.int .i64 k.sl)/\w'.cell? ⟨G.tp i,15,none⟩=some (.int .i64 (t.ran+1))) (go_keep) (fail)
   go_wp2_with (first
    |(go_at_call 68;refine(join_any S2.out.drew (setT_at _ i _)).mono ?_;rintro e w4 ⟨rfl,h4⟩;have S4:Hid (St o0 w0 G w4 (joinC (Kn.setT { k with now:=(k.now+1) % 4294967296 } i { t with ran:=t.ran+1 }) i)):=h4;clear h4))
   refine leaves_cons (f:=52) (args:=#[.pointer (some ⟨G.kp,0,none⟩)]) (by simp) (by simp [go_sem]) ?_
   refine(HTell.out _ S4.out).mono ?_
   rintro e u' w'' ⟨rfl,rfl,h9⟩
   exact⟨_,results_none rfl _ _ _,rfl,h9⟩
  ·have hsl3:¬ (t.ran+1 ≥ k.sl):=hsl2
   have e:slice1 { k with now:=(k.now+1) % 4294967296 }=Kn.setT { k with now:=(k.now+1) % 4294967296 } (Rd.fsv k.rd).toNat { t with ran:=t.ran+1 }:=by
    unfold slice1
    simp only [hb,if_true,ht,if_neg hsl2]
   rw [e] at HTell ⊢
   clear hc0 hs0 hnm e h hf hran hb ht
   generalize (Rd.fsv k.rd).toNat=i at *
   go_enter_defers Tryz.func44,Tryz.ntmps44
   go_wp2_with (first
    |(go_at_call 65;refine HRun.mono ?_;rintro e w1 ⟨rfl,h1,b1⟩;have S1:Hid (St o0 w0 G w1 { k with now:=(k.now+1) % 4294967296 }):=h1;have y15:=h1.d15 HT.out;have f15:=h1.tfree HT.out 15;have S2:Hid (St o0 w0 G (w1.setCell ⟨G.tp i,15,none⟩ (.int .i64 (t.ran+1))) (Kn.setT { k with now:=(k.now+1) % 4294967296 } i { t with ran:=t.ran+1 })):=h1.setT HT.out 15 _ _ rfl rfl rfl;have v0:(w1.setCell ⟨G.tp i,15,none⟩ (.int .i64 (t.ran+1))).cell? ⟨G.kp,0,none⟩=some (.int .i64 k.sl):=S2.out.c0;have y0:w1.cell? ⟨G.kp,0,none⟩=some (.int .i64 k.sl):=h1.c0;have v15:=S2.out.d15 (setT_at _ i _);clear h1 b1))
   go_region_held3 (fun w'=>w'.cell? ⟨G.kp,0,none⟩=some (.int .i64 k.sl)/\w'.cell? ⟨G.tp i,15,none⟩=some (.int .i64 (t.ran+1))) (go_keep) (fail)
   go_wp2
   refine leaves_cons (f:=52) (args:=#[.pointer (some ⟨G.kp,0,none⟩)]) (by simp) (by simp [go_sem]) ?_
   refine(HTell.out _ S2.out.drew).mono ?_
   rintro e u' w'' ⟨rfl,rfl,h9⟩
   exact⟨_,results_none rfl _ _ _,rfl,h9⟩
end
end Go.Proofs.YtbbdndfibjdcfaaGreat
namespace Go.Proofs.YtbbdndfibjdcfaaGreat
open Go Go.RowKit Go.Shelf
attribute [local go_sem] Oper.semAt_some
section
variable {o0:Nat->Nat} {w0 w w':World} {G:Geo} {k:Kn} {g:Int} {D:Nat->Prop}
noncomputable def sv1(k:Kn)(o:Nat):Bool×Kn :=
 match k.os o with
 | none=>(false,k)
 | some x =>
  match (Wt.keys x.q).find? (okB k x) with
  | none=>(false,k)
  | some i=>(true,answer (k.setO o { x with x:=(tries k x i).2.2 }) i.toNat 0 (tries k x i).1)
theorem find_split{p:Int->Bool}:∀ {l:List Int} {i:Int},l.find? p=some i->∃ n,n < l.length/\l.getD n 0=i/\p i=true/\∀ j,j < n->p (l.getD j 0)=false
 | [],_,h=>by cases h
 | x :: l,i,h=>by
  rw [List.find?_cons] at h
  cases hp:p x with
  | true =>
   rw [hp] at h
   simp only [Option.some.injEq] at h
   subst h
   exact⟨0,by simp,by simp,hp,fun j hj=>by omega⟩
  | false =>
   rw [hp] at h
   simp only at h
   obtain⟨n,h1,h2,h3,h4⟩:=find_split h
   refine⟨n+1,by simp;exact h1,by simpa using h2,h3,fun j hj=>?_⟩
   cases j with
   | zero=>simpa using hp
   | succ j=>simpa using h4 j (by omega)
theorem keys_len(q:List (Int×Int)):(Wt.keys q).length=q.length:=by simp [Wt.keys]
theorem waiter(hc:Core k g D){o:Nat}{x:Th}(hx:k.os o=some x){n:Nat}(hn:n < x.q.length):∃ (i:Nat) (t:Ta),(Wt.keys x.q).getD n 0=(i:Int)/\k.ts i=some t/\t.st=2/\t.on=(o:Int)/\tries k x (i:Int)=Ob.tA x.x t.h t.wh t.av t.am/\i < 16:=by
 have hm:(Wt.keys x.q).getD n 0∈Wt.keys x.q:=by
  rw [List.getD_eq_getElem?_getD,List.getElem?_eq_getElem (by rw [keys_len];exact hn)]
  exact List.getElem_mem _
 obtain⟨t,h1,h2,h3,h4,_⟩:=serve_one hc hx hm
 refine⟨((Wt.keys x.q).getD n 0).toNat,t,h2,h1,h3,h4,?_,(hc.hT _ t h1).1⟩
 unfold tries
 simp only [Int.toNat_natCast,h1]
theorem serveFirst_any(h:St o0 w0 G w k)(hc:Core k g D)(hg:0<=g/\g<=4294967295){o:Nat}{x:Th}(hx:k.os o=some x):Calls Tryz.prog 101 #[.pointer (some ⟨G.kp,0,none⟩),.pointer (some ⟨G.xp o,0,none⟩)] w fun e w'=>e=.returned (.bool (sv1 k o).1)/\St o0 w0 G w' (sv1 k o).2:=by
 have HS:Hid (St o0 w0 G w k):=h
 have HX:Hid (k.os o=some x):=hx
 have HC:Hid (Core k g D):=hc
 have HON:Hid (On k):=(hc.nm hg).on
 have e6:=h.e6 hx
 have HWL:=k_wlist h hx
 have hql:x.q.length<=1000:=by
  obtain⟨own,h,_⟩:=h
  exact(h.que o x hx (by omega)).len
 obtain⟨K,hK,hKy,hKn⟩:∃ K,K<=x.q.length/\(K < x.q.length->(Wt.keys x.q).find? (okB k x)=some ((Wt.keys x.q).getD K 0)/\okB k x ((Wt.keys x.q).getD K 0)=true)/\((K=x.q.length->(Wt.keys x.q).find? (okB k x)=none)/\∀ j,j < K->okB k x ((Wt.keys x.q).getD j 0)=false):=by
  cases hf:(Wt.keys x.q).find? (okB k x) with
  | none =>
   refine⟨x.q.length,Nat.le_refl _,fun c=>by omega,fun _=>rfl,fun j hj=>?_⟩
   have:=List.find?_eq_none.1 hf ((Wt.keys x.q).getD j 0) (by rw [List.getD_eq_getElem?_getD,List.getElem?_eq_getElem (by rw [keys_len];exact hj)];exact List.getElem_mem _)
   simpa using this
  | some i =>
   obtain⟨n,h1,h2,h3,h4⟩:=find_split hf
   rw [keys_len] at h1
   exact⟨n,by omega,fun _=>⟨by rw [h2],by rw [h2];exact h3⟩,fun c=>by omega,h4⟩
 have HK1:=(show Hid _ from hKy)
 have HK2:Hid (K=x.q.length->(Wt.keys x.q).find? (okB k x)=none):=hKn.1
 have HK3:Hid (∀ j,j < K->okB k x ((Wt.keys x.q).getD j 0)=false):=hKn.2
 clear h hc hx hKy hKn
 obtain⟨m,hm⟩:∃ m,x.q.length=m:=⟨_,rfl⟩
 rw [hm] at HWL hK hql HK1 HK2
 have HM:Hid (x.q.length=m):=hm
 clear hm
 have hqI:(m:Int)<=1000:=by omega
 go_enter Tryz.func101,Tryz.ntmps101
 go_wp2_with (first
  |(go_at_call 55;refine HWL.mono ?_;rintro e w1 ⟨sp,cap,rfl,ho,hsrc,hb1⟩;have HO:Hid (w1.ownsRow w.heap.size 3 1 (.slice sp m cap) m ((Wt.keys x.q).map (Value.int .i64))):=ho;have HB1:Hid (Below w.heap.size w w1):=hb1;clear ho hsrc hb1))
 obtain⟨own,hA,hX,hF⟩:=HS.out.fresh HB1.out
 have HXX:Hid (Ext o0 own w0 w1):=hX
 have HA:Hid (St own w1 G w1 k):=hA
 have HSP:Hid (0 < m->∃ gb,sp=some ⟨gb,0,none⟩/\own gb=0/\∀ j,j < m->w1.cell? ⟨gb,j,none⟩=some (.int .i64 ((Wt.keys x.q).getD j 0))):=fun hm0=>by
  obtain⟨gb,c2,e,_,_⟩:=owns_spot HO.out hm0
  simp only [Value.slice.injEq] at e
  obtain⟨rfl,_,rfl⟩:=e
  refine⟨gb,rfl,hF gb (World.ownsRow.lt HO.out gb rfl).1,fun j hj=>?_⟩
  have hlk:(Wt.keys x.q).length=m:=by rw [keys_len,HM.out]
  rw [HO.out.cellAt j (by omega)]
  simp [hlk,hj]
 clear hA hX hF HO HB1 HWL
 go_loopg [16] K (fun n s0 wx=>∃ i:Nat,i+n=K/\s0=.int .i64 i/\Hid (St own w1 G wx k))
 case atStart=>exact⟨0,by omega,rfl,HA⟩
 case round =>
  obtain⟨n,hnK,rfl,HR⟩:=hrel
  by_cases hnm:n=m
  ·have hgk:gk=0:=by omega
   subst hgk
   have hlt:¬ ((n:Int) < m):=by omega
   have e:sv1 k o=(false,k):=by
    unfold sv1
    simp only [HX.out]
    rw [HK2.out (by omega)]
   have HE:Hid (sv1 k o=(false,k)):=e
   clear e
   go_wp2
   go_ret
   rw [HE.out]
   exact⟨rfl,HR.out.from HXX.out⟩
  ·have hltm:n < m:=by omega
   have hlt:(n:Int) < m:=by omega
   have hwk:IntKind.i64.wrap ((n:Int)+1)=(n:Int)+1:=by rw [IntKind.wrap_i64];omega
   obtain⟨gb,rfl,hgb,hcells⟩:=HSP.out (by omega)
   have cg:=HR.out.cell hgb (hcells n hltm)
   obtain⟨i,t,hi,ht,hst,hon,htr,hi16⟩:=waiter HC.out HX.out (show n < x.q.length by rw [HM.out];exact hltm)
   have HT:Hid (k.ts i=some t):=ht
   have hi16I:(i:Int) < 16:=by omega
   rw [hi] at cg
   have c3:=HR.out.c3
   have ca:=HR.out.tap ht
   have b5:=HR.out.e5 HX.out
   have b0:=HR.out.d0 ht
   have b50:=HR.out.d5 ht
   have b6:=HR.out.d6 ht
   have b7:=HR.out.d7 ht
   have b8:=HR.out.d8 ht
   have b9:=HR.out.d9 ht
   have HTRY:Hid (∀ wx,St own w1 G wx k->Calls Tryz.prog 58 #[.pointer (some ⟨G.op o,0,none⟩),.int .u32 (t.h:Nat),.agg #[.int .u8 t.wh,.int .u32 (t.ah:Nat),.int .u32 (t.av:Nat),.int .u32 (t.am:Nat),.int .i64 t.aw]] wx fun e w'=>e=.returned (.tuple #[.int .u32 (tries k x i).1,.int .i64 (tries k x i).2.1])/\St own w1 G w' (k.setO o { x with x:=(tries k x i).2.2 })):=fun wx hx=>by
    rw [htr]
    exact k_try hx HX.out _ _ _ _ _ _ ⟨by omega,by have:=HC.out.hfit ht;omega⟩ (HR.out.av ht)
   have hok:(okB k x ((Wt.keys x.q).getD n 0)=true)↔(tries k x i).2.1=0:=by rw [hi];unfold okB;simp
   cases gk with
   | zero =>
    obtain rfl:n=K:=by omega
    obtain⟨hf1,hf2⟩:=HK1.out hltm
    have h0:=hok.1 hf2
    rw [hi] at hf1
    have e:sv1 k o=(true,answer (k.setO o { x with x:=(tries k x i).2.2 }) i 0 (tries k x i).1):=by
     unfold sv1
     simp only [HX.out,hf1,Int.toNat_natCast]
    have HAN:Hid (∀ wx,St own w1 G wx (k.setO o { x with x:=(tries k x i).2.2 })->Calls Tryz.prog 56 #[.pointer (some ⟨G.kp,0,none⟩),.pointer (some ⟨G.tp i,0,none⟩),.int .i64 0,.int .u32 (tries k x i).1] wx fun e w'=>e=.returned (.tuple #[])/\St own w1 G w' (answer (k.setO o { x with x:=(tries k x i).2.2 }) i 0 (tries k x i).1)):=fun wx hx=>by
     have:=answer_any hx (show(k.setO o { x with x:=(tries k x i).2.2 }).ts i=some t from HT.out) (fun h0=>by
      have e1:t.on.toNat=o:=by omega
      exact⟨_,by rw [e1];exact setO_at _ _ _⟩) 0 (tries k x i).1
     rw [answerC_of (show(k.setO o { x with x:=(tries k x i).2.2 }).ts i=some t from HT.out) (HC.out.rkb_no HT.out)] at this
     exact this
    have HE:=(show Hid _ from e)
    rw [h0] at HTRY
    clear hok hf1 hf2 h0 htr e hcells hon ht hst hi
    generalize (tries k x i).1=v at *
    generalize (tries k x i).2.2=T at *
    go_wp2
    go_region_held3 (fun w'=>w'.cell? ⟨G.xp o,5,none⟩=some (.pointer (some ⟨(G.op o),0,none⟩))/\w'.cell? ⟨G.tp i,0,none⟩=some (.int .u32 (t.h:Nat))/\w'.cell? ⟨G.tp i,5,none⟩=some (.int .u8 t.wh)/\w'.cell? ⟨G.tp i,6,none⟩=some (.int .u32 (t.ah:Nat))/\w'.cell? ⟨G.tp i,7,none⟩=some (.int .u32 (t.av:Nat))/\w'.cell? ⟨G.tp i,8,none⟩=some (.int .u32 (t.am:Nat))/\w'.cell? ⟨G.tp i,9,none⟩=some (.int .i64 t.aw)) (go_keep) (first
     |(go_at_call 58;refine(HTRY.out _ HR.out.drew).mono ?_;rintro e w4 ⟨rfl,h4⟩;have S4:Hid (St own w1 G w4 (k.setO o { x with x:=T })):=h4;have HX4:Hid ((k.setO o { x with x:=T }).os o=some { x with x:=T }):=setO_at _ _ _;have v5:=h4.e5 HX4.out;have v0:=h4.d0 HT.out;have v50:=h4.d5 HT.out;have v6:=h4.d6 HT.out;have v7:=h4.d7 HT.out;have v8:=h4.d8 HT.out;have v9:=h4.d9 HT.out;clear h4)
     | fail)
    go_wp2_with (first
     |(go_at_call 56;refine(HAN.out _ S4.out).mono ?_;rintro e w5 ⟨rfl,h5⟩;have S5:Hid (St own w1 G w5 (answer (k.setO o { x with x:=T }) i 0 v)):=h5;clear h5))
    go_ret
    rw [HE.out]
    exact⟨rfl,S5.out.from HXX.out⟩
   | succ g' =>
    have h0:¬ (tries k x i).2.1=0:=fun c=>by
     have:=HK3.out n (by omega)
     rw [hok.2 c] at this
     cases this
    have h0':((tries k x i).2.1 == 0)=false:=by simpa using h0
    have e:(k.setO o { x with x:=(tries k x i).2.2 })=k:=by
     rw [htr] at h0 ⊢
     rw [try_err _ _ _ _ _ h0]
     exact setO_same HX.out
    rw [e] at HTRY
    clear hok htr e hcells hon ht hst hi h0
    generalize (tries k x i).1=v at *
    generalize (tries k x i).2.1=er at *
    go_wp2
    go_region_held3 (fun w'=>w'.cell? ⟨G.xp o,5,none⟩=some (.pointer (some ⟨(G.op o),0,none⟩))/\w'.cell? ⟨G.tp i,0,none⟩=some (.int .u32 (t.h:Nat))/\w'.cell? ⟨G.tp i,5,none⟩=some (.int .u8 t.wh)/\w'.cell? ⟨G.tp i,6,none⟩=some (.int .u32 (t.ah:Nat))/\w'.cell? ⟨G.tp i,7,none⟩=some (.int .u32 (t.av:Nat))/\w'.cell? ⟨G.tp i,8,none⟩=some (.int .u32 (t.am:Nat))/\w'.cell? ⟨G.tp i,9,none⟩=some (.int .i64 t.aw)) (go_keep) (first
     |(go_at_call 58;refine(HTRY.out _ HR.out.drew).mono ?_;rintro e w4 ⟨rfl,h4⟩;have S4:Hid (St own w1 G w4 k):=h4;have v5:=h4.e5 HX.out;have v0:=h4.d0 HT.out;have v50:=h4.d5 HT.out;have v6:=h4.d6 HT.out;have v7:=h4.d7 HT.out;have v8:=h4.d8 HT.out;have v9:=h4.d9 HT.out;clear h4)
     | fail)
    go_wp2
    go_roundg g'
    case measure=>omega
    case rel=>exact⟨n+1,by omega,rfl,S4⟩
theorem sv1_no{o:Nat}(h:(sv1 k o).1=false):(sv1 k o).2=k:=by
 unfold sv1 at h ⊢
 cases hx:k.os o with
 | none=>rfl
 | some x =>
  rw [hx] at h
  simp only at h ⊢
  cases hf:(Wt.keys x.q).find? (okB k x) with
  | none=>rfl
  | some i=>rw [hf] at h;cases h
theorem serveN_sv1(n:Nat)(k:Kn)(o:Nat):serveN (n+1) k o=if(sv1 k o).1 then serveN n (sv1 k o).2 o else k:=by
 unfold sv1
 rw [serveN]
 cases hx:k.os o with
 | none=>rfl
 | some x =>
  simp only
  cases hf:(Wt.keys x.q).find? (okB k x) with
  | none=>rfl
  | some i=>rfl
theorem sv1_next(h:Core k g D){o:Nat}{x:Th}(hx:k.os o=some x)(hb:(sv1 k o).1=true):Core (sv1 k o).2 g D/\∃ y,(sv1 k o).2.os o=some y/\y.q.length+1=x.q.length:=by
 unfold sv1 at hb ⊢
 simp only [hx] at hb ⊢
 cases hf:(Wt.keys x.q).find? (okB k x) with
 | none=>rw [hf] at hb;cases hb
 | some i =>
  simp only
  have hi:=List.mem_of_find?_eq_some hf
  refine⟨h.serve1 hx hi,?_⟩
  obtain⟨t,h1,h2,h3,h4,_⟩:=serve_one h hx hi
  have hos:(answer (k.setO o { x with x:=(tries k x i).2.2 }) i.toNat 0 (tries k x i).1).os=unq (k.setO o { x with x:=(tries k x i).2.2 }).os i.toNat t.on:=by
   rw [answer_os (t:=t) (by exact h1),if_pos h3]
  rw [hos,unq_eq]
  have e1:(k.setO o { x with x:=(tries k x i).2.2 }).os o=some { x with x:=(tries k x i).2.2 }:=setO_at _ _ _
  simp only [e1,Option.map_some]
  refine⟨_,rfl,?_⟩
  simp only
  rw [if_pos h4,←h2]
  obtain⟨r,hr⟩:=q_keys.1 hi
  exact Wt.gone_len' (xs:=x.q) (who:=i) (Wt.has_yes.2 ⟨_,hr,rfl⟩)
theorem sv1_empty{o:Nat}{x:Th}(hx:k.os o=some x)(h0:x.q.length=0):(sv1 k o).1=false:=by
 have e:x.q=[]:=List.eq_nil_of_length_eq_zero h0
 unfold sv1
 simp only [hx,e]
 rfl
theorem serve_any(h:St o0 w0 G w k)(hc:Core k g D)(hg:0<=g/\g<=4294967295){o:Nat}{x:Th}(hx:k.os o=some x):Calls Tryz.prog 60 #[.pointer (some ⟨G.kp,0,none⟩),.pointer (some ⟨G.xp o,0,none⟩)] w fun e w'=>e=.returned (.tuple #[])/\St o0 w0 G w' (serve k o):=by
 have HS:Hid (St o0 w0 G w k):=h
 have HC:Hid (Core k g D):=hc
 have HX:Hid (k.os o=some x):=hx
 have HE:Hid (serve k o=serveN x.q.length k o):=show _=_ by unfold serve;rw [hx]
 clear h hc hx
 go_enter Tryz.func60,Tryz.ntmps60
 go_wp2
 go_loopg [] x.q.length (fun n wx=>∃ kx xx,Hid (serveN n kx o=serve k o)/\Hid (kx.os o=some xx)/\Hid (xx.q.length=n)/\Hid (Core kx g D)/\Hid (St o0 w0 G wx kx))
 case atStart=>exact⟨k,x,HE.out.symm,HX,rfl,HC,HS⟩
 case round =>
  obtain⟨kx,xx,H1,H2,H3,H4,H5⟩:=hrel
  have HF:=serveFirst_any H5.out H4.out hg H2.out
  cases hb:(sv1 kx o).1 with
  | false =>
   rw [hb] at HF
   have HN:Hid ((sv1 kx o).2=serve k o):=by
    have e1:=sv1_no hb
    show _=_
    rw [←H1.out,e1]
    cases gk with
    | zero=>rfl
    | succ n=>rw [serveN_sv1,hb];rfl
   clear hb
   go_wp2_with (first
    |(go_at_call 101;refine HF.mono ?_;rintro e w1 ⟨rfl,h1⟩;have S1:Hid (St o0 w0 G w1 (sv1 kx o).2):=h1;clear h1))
   go_end0
   exact⟨rfl,HN.out ▸ S1.out⟩
  | true =>
   cases gk with
   | zero=>rw [sv1_empty H2.out H3.out] at hb;cases hb
   | succ n =>
    rw [hb] at HF
    obtain⟨hc1,y,hy,hl⟩:=sv1_next H4.out H2.out hb
    have HN1:Hid (serveN n (sv1 kx o).2 o=serve k o):=show _=_ by rw [←H1.out,serveN_sv1,hb];rfl
    have HN2:Hid ((sv1 kx o).2.os o=some y):=hy
    have HN3:Hid (y.q.length=n):=show _=_ by have:=H3.out;omega
    have HN4:Hid (Core (sv1 kx o).2 g D):=hc1
    clear hb hc1 hy hl
    go_wp2_with (first
     |(go_at_call 101;refine HF.mono ?_;rintro e w1 ⟨rfl,h1⟩;have S1:Hid (St o0 w0 G w1 (sv1 kx o).2):=h1;clear h1))
    go_roundg n
    case measure=>omega
    case rel=>exact⟨_,y,HN1,HN2,HN3,HN4,S1⟩
end
end Go.Proofs.YtbbdndfibjdcfaaGreat
namespace Go.Proofs.YtbbdndfibjdcfaaGreat
open Go Go.RowKit
theorem hof_at{k:Kn}{i:Nat}{t:Ta}(ht:k.ts i=some t):hof k (i:Int)=t.h:=by
 unfold hof
 rw [Int.toNat_natCast,ht]
theorem runs_is{k:Kn}{g:Int}{D:Nat->Prop}(h:Core k g D) :
  (Rd.fsb k.rd=false/\runs k=0/\∀ i t,k.ts i=some t->¬ (t.st=1/\t.held=false)) ∨
  (∃ (i:Nat) (t:Ta),Rd.fsb k.rd=true/\Rd.fsv k.rd=(i:Int)/\k.ts i=some t/\runs k=t.h/\t.st=1/\t.held=false/\(∀ j u,k.ts j=some u->u.st=1->u.held=false->u.rank<=t.rank)/\(readyL k t.rank).head?=some t.h):=by
 cases hb:Rd.fsb k.rd with
 | false =>
  refine Or.inl ⟨rfl,by unfold runs;rw [hb];rfl,fun i t ht hs=>?_⟩
  have hr:=(h.tOk i t ht).rank
  have hm:(i:Int)∈k.rd t.rank.toNat:=(h.inRank ht _ (by omega)).2 ⟨hs.1,hs.2,by omega⟩
  unfold Rd.fsb at hb
  have hn:Rd.tp k.rd=none:=by simpa using hb
  have:=List.find?_eq_none.1 hn t.rank.toNat (by simp;omega)
  have e:k.rd t.rank.toNat=[]:=by simpa using this
  rw [e] at hm
  simp at hm
 | true =>
  obtain⟨t,r,hlt,htp,hv,ht,hs,hd,hr,hh⟩:=h.first hb
  refine Or.inr ⟨_,t,rfl,hv,ht,by unfold runs;rw [hb,if_pos rfl,ht],hs,hd,fun j u hu h1 h2=>?_,?_⟩
  ·have hur:=(h.tOk j u hu).rank
   have hm:(j:Int)∈k.rd u.rank.toNat:=(h.inRank hu _ (by omega)).2 ⟨h1,h2,by omega⟩
   have hne:k.rd u.rank.toNat≠[]:=fun e=>by rw [e] at hm;simp at hm
   unfold Rd.tp at htp
   rw [List.find?_eq_some_iff_append] at htp
   obtain⟨_,l1,l2,e1,e2⟩:=htp
   rcases Nat.lt_or_ge r u.rank.toNat with c | c
   ·have hmem:u.rank.toNat∈(List.range 32).reverse:=by simp;omega
    rw [e1] at hmem
    rcases List.mem_append.1 hmem with hm1 | hm1
    ·have:=e2 _ hm1
     simp [hne] at this
    ·exfalso
     have hp:(List.range 32).reverse.Pairwise (fun a b=>b < a):=by
      rw [List.pairwise_reverse];exact List.pairwise_lt_range
     rw [e1,List.pairwise_append] at hp
     rcases List.mem_cons.1 hm1 with e | e
     ·omega
     ·have:=(List.pairwise_cons.1 hp.2.1).1 _ e
      omega
   ·omega
  ·unfold readyL Rd.lsX
   rw [hr,if_pos (by omega),Int.toNat_natCast]
   have e:(Rd.fsv k.rd)=(((Rd.fsv k.rd).toNat:Nat):Int):=hv
   cases hc:k.rd r with
   | nil=>rw [hc] at hh;cases hh
   | cons a l =>
    rw [hc] at hh
    have ea:a=Rd.fsv k.rd:=by simpa using hh
    simp only [List.map_cons,List.head?_cons]
    rw [ea,e,hof_at ht]
def SameA(t u:Ta):Prop:=u={ t with rank:=u.rank,ran:=u.ran }
theorem SameA.trans{a b c:Ta}(h:SameA a b)(k:SameA b c):SameA a c:=by
 unfold SameA at *
 rw [k,h]
def AnsR(P:Ta->Int->Prop)(t u:Ta):Prop:=SameA t u∨(t.st=2/\u.st=1/\u.ans=t.ans+1/\u.h=t.h/\u.held=t.held/\u.base=t.base/\P t u.last)
def Deaf(P:Nat->Ta->Int->Prop):Prop:=∀ i t u e,SameA t u->P i u e->P i t e
def Stp(P:Nat->Ta->Int->Prop)(k k':Kn):Prop:=∀ i,(∀ t,k.ts i=some t->∃ u,k'.ts i=some u/\AnsR (P i) t u)/\(k.ts i=none->k'.ts i=none)
theorem Stp.refl(P:Nat->Ta->Int->Prop)(k:Kn):Stp P k k:=fun i=>⟨fun t ht=>⟨t,ht,Or.inl rfl⟩,id⟩
theorem Stp.trans{P:Nat->Ta->Int->Prop}(hP:Deaf P){a b c:Kn}(h:Stp P a b)(k:Stp P b c):Stp P a c:=fun i=>by
 refine⟨fun t ht=>?_,fun hn=>(k i).2 ((h i).2 hn)⟩
 obtain⟨u,hu,e1⟩:=(h i).1 t ht
 obtain⟨w,hw,e2⟩:=(k i).1 u hu
 refine⟨w,hw,?_⟩
 rcases e1 with e1 |⟨a1,a2,a3,a4,a5,a6,a7⟩
 ·rcases e2 with e2 |⟨b1,b2,b3,b4,b5,b6,b7⟩
  ·exact Or.inl (e1.trans e2)
  ·have e1':=e1
   unfold SameA at e1'
   refine Or.inr ⟨by rw [e1'] at b1;exact b1,b2,by rw [b3,e1'],by rw [b4,e1'],by rw [b5,e1'],by rw [b6,e1'],hP i t u w.last e1 b7⟩
 ·rcases e2 with e2 |⟨b1,_⟩
  ·unfold SameA at e2
   refine Or.inr ⟨a1,by rw [e2];exact a2,by rw [e2];exact a3,by rw [e2];exact a4,by rw [e2];exact a5,by rw [e2];exact a6,by rw [e2];exact a7⟩
  ·rw [a2] at b1;cases b1
def NoP:Nat->Ta->Int->Prop:=fun _ _ _=>False
theorem stp_set{k k':Kn}{i:Nat}{t t':Ta}(ht:k.ts i=some t)(e:k'.ts=set1 k.ts i (some t')){P:Nat->Ta->Int->Prop}(h:AnsR (P i) t t'):Stp P k k':=fun j=>by
 rw [e]
 by_cases c:j=i
 ·subst c
  rw [set1_at]
  refine⟨fun u hu=>?_,fun hn=>?_⟩
  ·rw [ht] at hu
   obtain rfl:t=u:=by simpa using hu
   exact⟨t',rfl,h⟩
  ·rw [ht] at hn;cases hn
 ·rw [set1_ne _ _ c]
  exact⟨fun u hu=>⟨u,hu,Or.inl rfl⟩,id⟩
theorem stp_join(k:Kn)(i:Nat):Stp NoP k (join k i):=by
 cases ht:k.ts i with
 | none =>
  have:join k i=k:=by unfold join;rw [ht]
  rw [this];exact Stp.refl _ _
 | some t =>
  have:join k i={ k with rd:=Rd.putX (Rd.rmX k.rd (i:Int)) (i:Int) t.rank,ts:=set1 k.ts i (some { t with ran:=0 }) }:=by unfold join;rw [ht]
  rw [this]
  exact stp_set (t':={ t with ran:=0 }) ht rfl (Or.inl rfl)
theorem stp_slice1(k:Kn):Stp NoP k (slice1 k):=by
 unfold slice1
 split
 ·dsimp only
  cases ht:k.ts (Rd.fsv k.rd).toNat with
  | none=>exact Stp.refl _ _
  | some t =>
   simp only
   have h1:Stp NoP k (k.setT (Rd.fsv k.rd).toNat { t with ran:=t.ran+1 }):=stp_set (t':={ t with ran:=t.ran+1 }) ht rfl (Or.inl rfl)
   split
   ·exact h1.trans (fun _ _ _ _ _ h=>h.elim) (stp_join _ _)
   ·exact h1
 ·exact Stp.refl _ _
noncomputable def ticksK(k:Kn):Nat->Kn
 | 0=>k
 | n+1=>tickK (ticksK k n)
theorem Core.place{k:Kn}{g:Int}{D:Nat->Prop}(h:Core k g D){i:Nat}{t:Ta}(ht:k.ts i=some t):Hd.placeE k.th t.h=0/\Hd.placeP k.th t.h=i:=by
 obtain⟨hi,e⟩:=h.hT i t ht
 have hu:(k.th i).2=true:=by rw [h.thT i,ht];rfl
 have h1:=h.th.one i hu
 have e1:t.h % 256=i:=by rw [e];unfold Hd.hd;omega
 have e2:t.h / 256=(k.th i).1:=by rw [e];unfold Hd.hd;omega
 have hp:Hd.placeE k.th t.h=0:=Hd.placeE_of (by omega) (by rw [e1,e2]) (by rw [e1];exact hu)
 exact⟨hp,by unfold Hd.placeP;rw [if_pos hp,e1]⟩
structure Rest (k k':Kn):Prop where
 th:k'.th=k.th
 oh:k'.oh=k.oh
 al:k'.al=k.al
 now:k'.now=k.now
 wc:k'.wc=k.wc
 sl:k'.sl=k.sl
theorem Rest.refl(k:Kn):Rest k k:=⟨rfl,rfl,rfl,rfl,rfl,rfl⟩
theorem Rest.trans{a b c:Kn}(h:Rest a b)(k:Rest b c):Rest a c:=⟨k.th.trans h.th,k.oh.trans h.oh,k.al.trans h.al,k.now.trans h.now,k.wc.trans h.wc,k.sl.trans h.sl⟩
theorem rest_join(k:Kn)(i:Nat):Rest k (join k i):=by
 unfold join
 split <;> exact⟨rfl,rfl,rfl,rfl,rfl,rfl⟩
theorem rest_turn1(l:List Int)(k:Kn)(i:Nat):Rest k (turn1 l k i):=by
 unfold turn1
 cases k.ts i with
 | none=>exact Rest.refl k
 | some t =>
  dsimp only
  split
  ·exact Rest.refl k
  ·split
   ·exact Rest.trans (b:={ k with os:=chq k.os i t.on (l.getD i 0),ts:=set1 k.ts i (some { t with rank:=l.getD i 0 }) }) ⟨rfl,rfl,rfl,rfl,rfl,rfl⟩ (rest_join _ _)
   ·exact⟨rfl,rfl,rfl,rfl,rfl,rfl⟩
theorem rest_fold{α:Type}{f:Kn->α->Kn}(hf:∀ k a,Rest k (f k a)):∀ (l:List α) (k:Kn),Rest k (l.foldl f k)
 | [],k=>Rest.refl k
 | a :: r,k=>(hf k a).trans (rest_fold hf r (f k a))
theorem rest_anew(k:Kn):Rest k (anew k):=rest_fold (fun k i=>rest_turn1 _ k i) _ k
theorem rest_answer(k:Kn)(i:Nat)(e v:Int):Rest k (answer k i e v):=by
 obtain⟨a,b,c,d,f,g⟩:=answer_rest (k:=k) (i:=i) e v
 exact⟨a,b,c,d,f,g⟩
theorem rest_serveN(o:Nat):∀ (n:Nat) (k:Kn),Rest k (serveN n k o)
 | 0,k=>Rest.refl k
 | n+1,k=>by
  unfold serveN
  cases hx:k.os o with
  | none=>exact Rest.refl k
  | some x =>
   dsimp only
   cases (Wt.keys x.q).find? (okB k x) with
   | none=>exact Rest.refl k
   | some i =>
    refine Rest.trans ?_ (rest_serveN o n _)
    exact Rest.trans (b:=k.setO o { x with x:=(tries k x i).2.2 }) ⟨rfl,rfl,rfl,rfl,rfl,rfl⟩ (rest_answer _ _ _ _)
theorem rest_serve(k:Kn)(o:Nat):Rest k (serve k o):=by
 unfold serve
 split
 ·exact rest_serveN o _ k
 ·exact Rest.refl k
theorem rest_letGo(h:Nat)(k:Kn)(o:Nat):Rest k (letGo h k o):=by
 unfold letGo
 cases k.os o with
 | none=>exact Rest.refl k
 | some x =>
  dsimp only
  split
  ·exact Rest.trans (b:=k.setO o { x with x:=Ob.lT x.x h }) ⟨rfl,rfl,rfl,rfl,rfl,rfl⟩ (rest_serve _ _)
  ·exact Rest.refl k
theorem signalK_err{k:Kn}{z v:Nat}(h:Hd.placeE k.oh z≠0):signalK k z v=(Hd.placeE k.oh z,k):=by
 unfold signalK signal1
 rw [if_pos h]
 simp only
 rw [if_neg h]
section
variable {o0:Nat->Nat} {w0 w w':World} {G:Geo} {k:Kn}
def Shown(G:Geo):Prop:=∀ o,G.sh o=true
def sgW(kd:Int):Int:=if kd=1 then 4 else if kd=4 then 12 else 0
theorem signalOf_any(kd:Int)(w:World):Calls Tryz.prog 59 #[.int .u8 kd] w fun e w'=>e=.returned (.int .u8 (sgW kd))/\w=w':=by
 unfold sgW
 by_cases h1:kd=1
 ·subst h1
  go_enter Tryz.func59,Tryz.ntmps59
  go_wp2
  go_ret
  exact⟨rfl,rfl⟩
 ·have h1':(kd == 1)=false:=by simpa using h1
  rw [if_neg h1]
  by_cases h4:kd=4
  ·subst h4
   go_enter Tryz.func59,Tryz.ntmps59
   go_wp2
   go_ret
   exact⟨rfl,rfl⟩
  ·have h4':(kd == 4)=false:=by simpa using h4
   rw [if_neg h4]
   go_enter Tryz.func59,Tryz.ntmps59
   go_wp2
   go_ret
   exact⟨rfl,rfl⟩
theorem oPt_at{G:Geo}(hG:Shown G){os:Nat->Option Th}{o:Nat}{x:Th}(h:os o=some x):oPt G os o=.pointer (some ⟨G.xp o,0,none⟩):=by unfold oPt;rw [h,hG o];rfl
theorem findX(h:St o0 w0 G w k)(hG:Shown G)(z:Nat)(hz:z<=4294967295){x:Th}(he:Hd.placeE k.oh z=0)(hx:k.os (Hd.placeP k.oh z)=some x):Calls Tryz.prog 50 #[.pointer (some ⟨G.kp,4,none⟩),.int .u32 (z:Nat)] w fun e w'=>e=.returned (.tuple #[.pointer (some ⟨G.xp (Hd.placeP k.oh z),0,none⟩),.int .i64 0])/\St o0 w0 G w' k/\Below w.heap.size w w':=by
 have:=xfind_any h z hz (fun e=>h.oi hx)
 rw [if_pos he,he,oPt_at hG hx] at this
 exact this
theorem findXno(h:St o0 w0 G w k)(z:Nat)(hz:z<=4294967295)(he:Hd.placeE k.oh z≠0):Calls Tryz.prog 50 #[.pointer (some ⟨G.kp,4,none⟩),.int .u32 (z:Nat)] w fun e w'=>e=.returned (.tuple #[.pointer none,.int .i64 (Hd.placeE k.oh z)])/\St o0 w0 G w' k/\Below w.heap.size w w':=by
 have:=xfind_any h z hz (fun e=>absurd e he)
 rw [if_neg he] at this
 exact this
theorem target_no(h:St o0 w0 G w k)(z:Nat)(hz:z<=4294967295)(he:Hd.placeE k.oh z≠0):Calls Tryz.prog 57 #[.pointer (some ⟨G.kp,0,none⟩),.int .u32 (z:Nat)] w fun e w'=>e=.returned (.tuple #[.pointer none,.int .i64 (Hd.placeE k.oh z)])/\St o0 w0 G w' k/\Below w.heap.size w w':=by
 have HF:=findXno h z hz he
 have he':(Hd.placeE k.oh z == 0)=false:=by simpa using he
 have he2:(Hd.placeE k.oh z != 0)=true:=by simpa using he
 clear h
 generalize Hd.placeE k.oh z=er at *
 go_enter Tryz.func57,Tryz.ntmps57
 go_wp2_with (first |(go_at_call 50;refine HF.mono ?_;rintro e w1 ⟨rfl,h1,b1⟩;have S1:Hid (St o0 w0 G w1 k/\Below w.heap.size w w1):=⟨h1,b1⟩;clear h1 b1))
 go_ret2
 exact⟨rfl,S1.out⟩
theorem target_at(h:St o0 w0 G w k)(hG:Shown G)(z:Nat)(hz:z<=4294967295){x:Th}(he:Hd.placeE k.oh z=0)(hx:k.os (Hd.placeP k.oh z)=some x):Calls Tryz.prog 57 #[.pointer (some ⟨G.kp,0,none⟩),.int .u32 (z:Nat)] w fun e w'=>e=.returned (.tuple #[if x.x.k=1∨x.x.k=4 then .pointer (some ⟨G.xp (Hd.placeP k.oh z),0,none⟩) else .pointer none,.int .i64 (if x.x.k=1∨x.x.k=4 then 0 else 1)])/\St o0 w0 G w' k/\Below w.heap.size w w':=by
 have HF:=findX h hG z hz he hx
 have HX:Hid (k.os (Hd.placeP k.oh z)=some x):=hx
 have HSG:=signalOf_any x.x.k
 clear h he hx
 generalize Hd.placeP k.oh z=o at *
 by_cases hk:x.x.k=1∨x.x.k=4
 ·rw [if_pos hk,if_pos hk]
  have h0:(sgW x.x.k == 0)=false:=by rcases hk with c | c <;> rw [c] <;> decide
  clear hk
  generalize sgW x.x.k=sg at *
  go_enter Tryz.func57,Tryz.ntmps57
  go_wp2_with (first
   |(go_at_call 50;refine HF.mono ?_;rintro e w1 ⟨rfl,h1,b1⟩;have S1:Hid (St o0 w0 G w1 k/\Below w.heap.size w w1):=⟨h1,b1⟩;have v2:=h1.e2 HX.out;clear h1 b1)
   |(go_at_call 59;refine(HSG _).mono ?_;rintro e wx ⟨rfl,rfl⟩))
  go_ret2
  exact⟨rfl,S1.out⟩
 ·rw [if_neg hk,if_neg hk]
  have h0:sgW x.x.k=0:=by unfold sgW;rw [if_neg (fun c=>hk (Or.inl c)),if_neg (fun c=>hk (Or.inr c))]
  rw [h0] at HSG
  clear hk h0
  go_enter Tryz.func57,Tryz.ntmps57
  go_wp2_with (first
   |(go_at_call 50;refine HF.mono ?_;rintro e w1 ⟨rfl,h1,b1⟩;have S1:Hid (St o0 w0 G w1 k/\Below w.heap.size w w1):=⟨h1,b1⟩;have v2:=h1.e2 HX.out;clear h1 b1)
   |(go_at_call 59;refine(HSG _).mono ?_;rintro e wx ⟨rfl,rfl⟩))
  go_ret2
  exact⟨rfl,S1.out⟩
theorem tA_give(T:Ob.Sx)(who:Int)(av av' am:Nat):Ob.tA T who 4 av am=Ob.tA T who 4 av' am:=by
 unfold Ob.tA
 have e:Ob.tX T who 4 av am=Ob.tX T who 4 av' am:=by unfold Ob.tX;simp
 rw [e]
theorem sig_core(h:Core k 0 NoD){o:Nat}{x:Th}(hx:k.os o=some x){wh:Int}{v:Nat}(hw:wh=if x.x.k=1 then 4 else 12):Core (k.setO o { x with x:=(Ob.tA x.x 1 wh v 0).2.2 }) 0 NoD:=by
 have hw5:wh≠5/\wh≠14:=by split at hw <;> omega
 refine h.thing hx (try_kind _ _ _ _ _).1 fun z hz h0=>?_
 rcases hz with rfl | hz
 ·rcases try_own x.x 1 wh v 0 with e | e | e
  ·rw [e] at h0 ⊢;exact h.own o x hx _ (Or.inl rfl) h0
  ·exact absurd e.1 hw5.1
  ·exact absurd e h0
 ·rcases try_zs x.x 1 wh v 0 z hz with e | e | e
  ·exact h.own o x hx _ (Or.inr e) h0
  ·exact absurd e.1 hw5.2
  ·exact absurd e h0
theorem signal_any(h:St o0 w0 G w k)(hG:Shown G)(hf:Fin k)(z v:Nat)(hz:z<=4294967295)(hv:v < 4294967296):Calls Tryz.prog 19 #[.pointer (some ⟨G.kp,0,none⟩),.agg #[.int .u32 (z:Nat),.int .u32 (v:Nat)]] w fun e w'=>e=.returned (.int .i64 (signalK k z v).1)/\St o0 w0 G w' (signalK k z v).2:=by
 have hB0:=alloc_below w (.cells #[.int .u32 (z:Nat),.int .u32 (v:Nat)] 60)
 have hat:=alloc_at w (.cells #[.int .u32 (z:Nat),.int .u32 (v:Nat)] 60)
 obtain⟨own,hA,hX,hF⟩:=h.fresh hB0
 have HXX:Hid (Ext o0 own w0 (w.alloc (.cells #[.int .u32 (z:Nat),.int .u32 (v:Nat)] 60))):=hX
 have HOW:Hid (own w.heap.size=0):=hF _ (Nat.le_refl _)
 have x0:(w.alloc (.cells #[.int .u32 (z:Nat),.int .u32 (v:Nat)] 60)).cell? ⟨w.heap.size,0,none⟩=some (.int .u32 (z:Nat)):=by rw [cell_of hat];rfl
 have x1:(w.alloc (.cells #[.int .u32 (z:Nat),.int .u32 (v:Nat)] 60)).cell? ⟨w.heap.size,1,none⟩=some (.int .u32 (v:Nat)):=by rw [cell_of hat];rfl
 have HA:Hid (St own (w.alloc (.cells #[.int .u32 (z:Nat),.int .u32 (v:Nat)] 60)) G (w.alloc (.cells #[.int .u32 (z:Nat),.int .u32 (v:Nat)] 60)) k):=hA
 have HTH:=there_any hA hA.slo.1.1
 have HX1:=(show Hid _ from x1)
 by_cases he:Hd.placeE k.oh z=0
 ·obtain⟨x,hx,hh,_⟩:=hf.core.thing_at he
  have HTG:=target_at hA hG z hz he hx
  have HX:Hid (k.os (Hd.placeP k.oh z)=some x):=hx
  by_cases hk:x.x.k=1∨x.x.k=4
  ·rw [if_pos hk,if_pos hk] at HTG
   have HSG:=signalOf_any x.x.k
   have hwh:sgW x.x.k=(if x.x.k=1 then 4 else 12):=by unfold sgW;rcases hk with c | c <;> rw [c] <;> rfl
   have hTR:Ob.tA x.x 1 (if x.x.k=1 then 4 else 12) (if x.x.k=1 then 0 else v) 0=Ob.tA x.x 1 (sgW x.x.k) v 0:=by
    rw [hwh]
    by_cases c:x.x.k=1
    ·rw [if_pos c,if_pos c];exact tA_give _ _ _ _ _
    ·rw [if_neg c,if_neg c]
   have HTRY:Hid (∀ wx,St own (w.alloc (.cells #[.int .u32 (z:Nat),.int .u32 (v:Nat)] 60)) G wx k->Calls Tryz.prog 58 #[.pointer (some ⟨G.op (Hd.placeP k.oh z),0,none⟩),.int .u32 1,.agg #[.int .u8 (sgW x.x.k),.int .u32 0,.int .u32 (v:Nat),.int .u32 0,.int .i64 0]] wx fun e w'=>e=.returned (.tuple #[.int .u32 (Ob.tA x.x 1 (sgW x.x.k) v 0).1,.int .i64 (Ob.tA x.x 1 (sgW x.x.k) v 0).2.1])/\St own (w.alloc (.cells #[.int .u32 (z:Nat),.int .u32 (v:Nat)] 60)) G w' (k.setO (Hd.placeP k.oh z) { x with x:=(Ob.tA x.x 1 (sgW x.x.k) v 0).2.2 })):=fun wx hw=>k_try hw hx 1 (sgW x.x.k) 0 v 0 0 (by omega) hv
   have hE1:signal1 k z v=if(Ob.tA x.x 1 (sgW x.x.k) v 0).2.1=0 then(0,serve (k.setO (Hd.placeP k.oh z) { x with x:=(Ob.tA x.x 1 (sgW x.x.k) v 0).2.2 }) (Hd.placeP k.oh z)) else((Ob.tA x.x 1 (sgW x.x.k) v 0).2.1,k.setO (Hd.placeP k.oh z) { x with x:=(Ob.tA x.x 1 (sgW x.x.k) v 0).2.2 }):=by
    unfold signal1
    simp only [he,ne_eq,not_true_eq_false,if_false,hx,if_pos hk,hTR]
   by_cases h0:(Ob.tA x.x 1 (sgW x.x.k) v 0).2.1=0
   ·rw [if_pos h0] at hE1
    have hpre:=(hf.pre.signal1 z v).1
    have HTK:Hid ((Ob.tA x.x 1 (sgW x.x.k) v 0).2.2.k=x.x.k):=(try_kind _ _ _ _ _).1
    have hcs:Core (k.setO (Hd.placeP k.oh z) { x with x:=(Ob.tA x.x 1 (sgW x.x.k) v 0).2.2 }) 0 NoD:=sig_core hf.core hx hwh
    have HE:Hid (signalK k z v=(0,anew (serve (k.setO (Hd.placeP k.oh z) { x with x:=(Ob.tA x.x 1 (sgW x.x.k) v 0).2.2 }) (Hd.placeP k.oh z)))):=show _=_ by unfold signalK;simp only [hE1,if_true]
    rw [hE1] at hpre
    have HTell:Hid (∀ wx,St own (w.alloc (.cells #[.int .u32 (z:Nat),.int .u32 (v:Nat)] 60)) G wx (serve (k.setO (Hd.placeP k.oh z) { x with x:=(Ob.tA x.x 1 (sgW x.x.k) v 0).2.2 }) (Hd.placeP k.oh z))->CallsD Tryz.prog 52 #[.pointer (some ⟨G.kp,0,none⟩)] .returning wx fun e u' w'=>u'=.returning/\(e=.returned (.tuple #[])/\St own (w.alloc (.cells #[.int .u32 (z:Nat),.int .u32 (v:Nat)] 60)) G w' (anew (serve (k.setO (Hd.placeP k.oh z) { x with x:=(Ob.tA x.x 1 (sgW x.x.k) v 0).2.2 }) (Hd.placeP k.oh z))))):=fun wx hx=>tell_any hx hpre.core hx.kd hpre.self _
    have HSV:Hid (∀ wx,St own (w.alloc (.cells #[.int .u32 (z:Nat),.int .u32 (v:Nat)] 60)) G wx (k.setO (Hd.placeP k.oh z) { x with x:=(Ob.tA x.x 1 (sgW x.x.k) v 0).2.2 })->Calls Tryz.prog 60 #[.pointer (some ⟨G.kp,0,none⟩),.pointer (some ⟨G.xp (Hd.placeP k.oh z),0,none⟩)] wx fun e w'=>e=.returned (.tuple #[])/\St own (w.alloc (.cells #[.int .u32 (z:Nat),.int .u32 (v:Nat)] 60)) G w' (serve (k.setO (Hd.placeP k.oh z) { x with x:=(Ob.tA x.x 1 (sgW x.x.k) v 0).2.2 }) (Hd.placeP k.oh z))):=fun wx hw=>serve_any hw hcs (by omega) (setO_at _ _ _)
    rw [h0] at HTRY
    clear h hB0 hat hA hX hF hf he hx hk hwh hTR hE1 h0 hpre hcs
    generalize (Ob.tA x.x 1 (sgW x.x.k) v 0).1=n1 at *
    generalize (Ob.tA x.x 1 (sgW x.x.k) v 0).2.2=T at *
    generalize sgW x.x.k=sg at *
    generalize Hd.placeP k.oh z=o at *
    obtain⟨wa,hwa⟩:∃ wa,w.alloc (.cells #[.int .u32 (z:Nat),.int .u32 (v:Nat)] 60)=wa:=⟨_,rfl⟩
    obtain⟨bx,hbx⟩:∃ bx,w.heap.size=bx:=⟨_,rfl⟩
    go_enter_defers Tryz.func19,Tryz.ntmps19
    rw [hbx] at HOW HX1 x0 x1
    simp only [hwa] at HXX x0 x1 HA HTH HX1 HTG HTRY HTell HSV ⊢
    go_wp2_with (first
     |(go_at_call 41;refine HTH.mono ?_;rintro e wx ⟨rfl,rfl⟩)
     |(go_at_call 57;refine HTG.mono ?_;rintro e w1 ⟨rfl,h1,b1⟩;have S1:Hid (St own wa G w1 k):=h1;have v5:=h1.e5 HX.out;have v2:=h1.e2 HX.out;have vx:=h1.cell HOW.out HX1.out;clear h1 b1))
    go_region_held3 (fun w'=>w'.cell? ⟨G.xp o,5,none⟩=some (.pointer (some ⟨(G.op o),0,none⟩))/\w'.cell? ⟨G.xp o,2,none⟩=some (.int .u8 x.x.k)/\w'.cell? ⟨bx,1,none⟩=some (.int .u32 (v:Nat))) (go_keep) (first
     |(go_at_call 59;refine(HSG _).mono ?_;rintro e wx ⟨rfl,rfl⟩)
     |(go_at_call 58;refine(HTRY.out _ S1.out.drew).mono ?_;rintro e w4 ⟨rfl,h4⟩;have S4:Hid (St own wa G w4 (k.setO o { x with x:=T })):=h4;have u5:=h4.e5 (setO_at k o _);have u2:w4.cell? ⟨G.xp o,2,none⟩=some (.int .u8 x.x.k):=(h4.e2 (setO_at k o _)).trans (by rw [HTK.out]);have ux:=h4.cell HOW.out HX1.out;clear h4)
     | fail)
    go_wp2_with (first
     |(go_at_call 60;refine(HSV.out _ S4.out).mono ?_;rintro e w5 ⟨rfl,h5⟩;have S5:Hid (St own wa G w5 (serve (k.setO o { x with x:=T }) o)):=h5;clear h5))
    refine leaves_cons (f:=52) (args:=#[.pointer (some ⟨G.kp,0,none⟩)]) (by simp) (by simp [go_sem]) ?_
    refine(HTell.out _ S5.out).mono ?_
    rintro e u' w'' ⟨rfl,rfl,h9⟩
    rw [HE.out]
    exact⟨_,results_tmp rfl _ _ _,rfl,h9.from HXX.out⟩
   ·rw [if_neg h0] at hE1
    have h0':((Ob.tA x.x 1 (sgW x.x.k) v 0).2.1 == 0)=false:=by simpa using h0
    have h0b:((Ob.tA x.x 1 (sgW x.x.k) v 0).2.1 != 0)=true:=by simpa using h0
    have HE:Hid (signalK k z v=((Ob.tA x.x 1 (sgW x.x.k) v 0).2.1,k.setO (Hd.placeP k.oh z) { x with x:=(Ob.tA x.x 1 (sgW x.x.k) v 0).2.2 })):=show _=_ by unfold signalK;simp only [hE1];rw [if_neg h0]
    have HTK:Hid ((Ob.tA x.x 1 (sgW x.x.k) v 0).2.2.k=x.x.k):=(try_kind _ _ _ _ _).1
    clear h hB0 hat hA hX hF hf he hx hk hwh hTR hE1 h0
    generalize (Ob.tA x.x 1 (sgW x.x.k) v 0).1=n1 at *
    generalize (Ob.tA x.x 1 (sgW x.x.k) v 0).2.2=T at *
    generalize (Ob.tA x.x 1 (sgW x.x.k) v 0).2.1=er at *
    generalize sgW x.x.k=sg at *
    generalize Hd.placeP k.oh z=o at *
    obtain⟨wa,hwa⟩:∃ wa,w.alloc (.cells #[.int .u32 (z:Nat),.int .u32 (v:Nat)] 60)=wa:=⟨_,rfl⟩
    obtain⟨bx,hbx⟩:∃ bx,w.heap.size=bx:=⟨_,rfl⟩
    go_enter Tryz.func19,Tryz.ntmps19
    rw [hbx] at HOW HX1 x0 x1
    simp only [hwa] at HXX x0 x1 HA HTH HX1 HTG HTRY ⊢
    go_wp2_with (first
     |(go_at_call 41;refine HTH.mono ?_;rintro e wx ⟨rfl,rfl⟩)
     |(go_at_call 57;refine HTG.mono ?_;rintro e w1 ⟨rfl,h1,b1⟩;have S1:Hid (St own wa G w1 k):=h1;have v5:=h1.e5 HX.out;have v2:=h1.e2 HX.out;have vx:=h1.cell HOW.out HX1.out;clear h1 b1))
    go_region_held3 (fun w'=>w'.cell? ⟨G.xp o,5,none⟩=some (.pointer (some ⟨(G.op o),0,none⟩))/\w'.cell? ⟨G.xp o,2,none⟩=some (.int .u8 x.x.k)/\w'.cell? ⟨bx,1,none⟩=some (.int .u32 (v:Nat))) (go_keep) (first
     |(go_at_call 59;refine(HSG _).mono ?_;rintro e wx ⟨rfl,rfl⟩)
     |(go_at_call 58;refine(HTRY.out _ S1.out.drew).mono ?_;rintro e w4 ⟨rfl,h4⟩;have S4:Hid (St own wa G w4 (k.setO o { x with x:=T })):=h4;have u5:=h4.e5 (setO_at k o _);have u2:w4.cell? ⟨G.xp o,2,none⟩=some (.int .u8 x.x.k):=(h4.e2 (setO_at k o _)).trans (by rw [HTK.out]);have ux:=h4.cell HOW.out HX1.out;clear h4)
     | fail)
    go_wp2
    go_ret
    rw [HE.out]
    exact⟨rfl,S4.out.from HXX.out⟩
  ·rw [if_neg hk,if_neg hk] at HTG
   have HE:Hid (signalK k z v=(1,k)):=show _=_ by
    unfold signalK signal1
    simp only [he,ne_eq,not_true_eq_false,if_false,hx,if_neg hk]
    rfl
   clear h hB0 hat hA hX hF hf he hx hk
   obtain⟨wa,hwa⟩:∃ wa,w.alloc (.cells #[.int .u32 (z:Nat),.int .u32 (v:Nat)] 60)=wa:=⟨_,rfl⟩
   obtain⟨bx,hbx⟩:∃ bx,w.heap.size=bx:=⟨_,rfl⟩
   go_enter Tryz.func19,Tryz.ntmps19
   rw [hbx] at HOW HX1 x0 x1
   simp only [hwa] at HXX x0 x1 HA HTH HX1 HTG ⊢
   go_wp2_with (first
    |(go_at_call 41;refine HTH.mono ?_;rintro e wx ⟨rfl,rfl⟩)
    |(go_at_call 57;refine HTG.mono ?_;rintro e w1 ⟨rfl,h1,b1⟩;have S1:Hid (St own wa G w1 k):=h1;clear h1 b1))
   go_ret
   rw [HE.out]
   exact⟨rfl,S1.out.from HXX.out⟩
 ·have HTG:=target_no hA z hz he
  have HE:Hid (signalK k z v=(Hd.placeE k.oh z,k)):=signalK_err he
  have he':(Hd.placeE k.oh z == 0)=false:=by simpa using he
  have he2:(Hd.placeE k.oh z != 0)=true:=by simpa using he
  clear h hB0 hat hA hX hF hf he
  generalize Hd.placeE k.oh z=er at *
  obtain⟨wa,hwa⟩:∃ wa,w.alloc (.cells #[.int .u32 (z:Nat),.int .u32 (v:Nat)] 60)=wa:=⟨_,rfl⟩
  obtain⟨bx,hbx⟩:∃ bx,w.heap.size=bx:=⟨_,rfl⟩
  go_enter Tryz.func19,Tryz.ntmps19
  rw [hbx] at HOW HX1 x0 x1
  simp only [hwa] at HXX x0 x1 HA HTH HX1 HTG ⊢
  go_wp2_with (first
   |(go_at_call 41;refine HTH.mono ?_;rintro e wx ⟨rfl,rfl⟩)
   |(go_at_call 57;refine HTG.mono ?_;rintro e w1 ⟨rfl,h1,b1⟩;have S1:Hid (St own wa G w1 k):=h1;clear h1 b1))
  go_ret
  rw [HE.out]
  exact⟨rfl,S1.out.from HXX.out⟩
end
end Go.Proofs.YtbbdndfibjdcfaaGreat
namespace Go.Proofs.YtbbdndfibjdcfaaGreat
open Go Go.RowKit
theorem sorted_same{α:Type}{R:α->α->Prop}(has:∀ a b,R a b->¬ R b a):∀ {l m:List α},l.Pairwise R->m.Pairwise R->(∀ x,x∈l↔x∈m)->l=m
 | [],[],_,_,_=>rfl
 | [],b :: m,_,_,h=>by have:=(h b).2 (List.mem_cons_self ..);cases this
 | a :: l,[],_,_,h=>by have:=(h a).1 (List.mem_cons_self ..);cases this
 | a :: l,b :: m,hl,hm,h=>by
  have hl':=List.pairwise_cons.1 hl
  have hm':=List.pairwise_cons.1 hm
  have e:a=b:=by
   rcases List.mem_cons.1 ((h a).1 (List.mem_cons_self ..)) with e | h1
   ·exact e
   ·rcases List.mem_cons.1 ((h b).2 (List.mem_cons_self ..)) with e | h2
    ·exact e.symm
    ·exact absurd (hl'.1 b h2) (has _ _ (hm'.1 a h1))
  subst e
  congr 1
  refine sorted_same has hl'.2 hm'.2 fun x=>?_
  constructor
  ·intro hx
   rcases List.mem_cons.1 ((h x).1 (List.mem_cons_of_mem _ hx)) with e | h1
   ·subst e;exact absurd (hl'.1 x hx) (fun c=>has _ _ c c)
   ·exact h1
  ·intro hx
   rcases List.mem_cons.1 ((h x).2 (List.mem_cons_of_mem _ hx)) with e | h1
   ·subst e;exact absurd (hm'.1 x hx) (fun c=>has _ _ c c)
   ·exact h1
def Bef(k:Kn)(i j:Nat):Prop:=∃ s t,k.ts i=some s/\k.ts j=some t/\s.since < t.since
theorem bef_iff{k:Kn}{i j:Nat}:before k i j=true↔Bef k i j:=by
 unfold before Bef
 cases k.ts i with
 | none=>simp
 | some s =>
  cases k.ts j with
  | none=>simp
  | some t=>simp
theorem insS_bef{k:Kn}{i:Nat}(hd:∀ a b c,Bef k a b->Bef k b c->Bef k a c):∀ {l:List Nat},l.Pairwise (Bef k)->(∀ j∈l,Bef k j i∨Bef k i j)->(insS k l i).Pairwise (Bef k)/\∀ x,x∈insS k l i↔x=i∨x∈l
 | [],_,_=>⟨by simp [insS],by simp [insS]⟩
 | a :: l,hl,h=>by
  have hl':=List.pairwise_cons.1 hl
  obtain⟨r1,r2⟩:=insS_bef hd hl'.2 fun j hj=>h j (List.mem_cons_of_mem _ hj)
  unfold insS
  cases hb:before k a i with
  | true =>
   simp only [if_true]
   refine⟨List.pairwise_cons.2 ⟨fun x hx=>?_,r1⟩,fun x=>?_⟩
   ·rcases(r2 x).1 hx with rfl | hx
    ·exact bef_iff.1 hb
    ·exact hl'.1 x hx
   ·rw [List.mem_cons,r2,List.mem_cons]
    exact⟨fun c=>by rcases c with c | c | c <;> simp [c],fun c=>by rcases c with c | c | c <;> simp [c]⟩
  | false =>
   simp only [Bool.false_eq_true,if_false]
   have hia:Bef k i a:=(h a (List.mem_cons_self ..)).resolve_left fun c=>by rw [bef_iff.2 c] at hb;cases hb
   refine⟨List.pairwise_cons.2 ⟨fun x hx=>?_,hl⟩,fun x=>by simp⟩
   rcases List.mem_cons.1 hx with rfl | hx
   ·exact hia
   ·exact hd _ _ _ hia (hl'.1 x hx)
theorem foldS_bef{k:Kn}(hd:∀ a b c,Bef k a b->Bef k b c->Bef k a c):∀ (m l:List Nat),l.Pairwise (Bef k)->m.Nodup->(∀ x∈m,x ∉ l)->(∀ x∈m,∀ y∈l ++ m,x≠y->Bef k x y∨Bef k y x)->(m.foldl (insS k) l).Pairwise (Bef k)
 | [],l,hl,_,_,_=>hl
 | a :: m,l,hl,hn,hx,h=>by
  have hn':=List.nodup_cons.1 hn
  obtain⟨r1,r2⟩:=insS_bef (i:=a) hd hl fun j hj=>(h a (List.mem_cons_self ..) j (List.mem_append_left _ hj) (fun e=>hx a (List.mem_cons_self ..) (e ▸ hj))).symm
  refine foldS_bef hd m (insS k l a) r1 hn'.2 (fun x hm hc=>?_) fun x hm y hy hne=>?_
  ·rcases(r2 x).1 hc with rfl | hc
   ·exact hn'.1 hm
   ·exact hx x (List.mem_cons_of_mem _ hm) hc
  ·refine h x (List.mem_cons_of_mem _ hm) y ?_ hne
   rcases List.mem_append.1 hy with hy | hy
   ·rcases(r2 y).1 hy with rfl | hy
    ·simp
    ·exact List.mem_append_left _ hy
   ·exact List.mem_append_right _ (List.mem_cons_of_mem _ hy)
theorem pair_either{α:Type}{R:α->α->Prop}:∀ {l:List α},l.Pairwise R->∀ {x y:α},x∈l->y∈l->x≠y->R x y∨R y x
 | [],_,_,_,hx,_,_=>by cases hx
 | a :: l,h,x,y,hx,hy,hne=>by
  have h':=List.pairwise_cons.1 h
  rcases List.mem_cons.1 hx with rfl | hx
  ·rcases List.mem_cons.1 hy with e | hy
   ·exact absurd e.symm hne
   ·exact Or.inl (h'.1 y hy)
  ·rcases List.mem_cons.1 hy with e | hy
   ·rw [e];exact Or.inr (h'.1 x hx)
   ·exact pair_either h'.2 hx hy hne
theorem woke_due{k:Kn}{ys:List (Int×Int)}(h:Ends k.ts k.wc ys)(hi:∀ i t,k.ts i=some t->i < 16):Tm.woke ys=(dueT k).map fun i:Nat=>(i:Int):=by
 have htr:∀ a b c,Bef k a b->Bef k b c->Bef k a c:=fun a b c ⟨s,t,h1,h2,h3⟩ ⟨u,v,h4,h5,h6⟩=>by
  rw [h2] at h4
  obtain rfl:=Option.some.inj h4
  exact⟨s,v,h1,h5,by omega⟩
 have hap:∀ i s,k.ts i=some s->s.left=1->∀ j t,k.ts j=some t->t.left=1->i≠j->Bef k i j∨Bef k j i:=fun i s hs h1 j t ht h2 hne=>by
  have m1:((i:Int),s.left)∈ys:=(h.mem _).2 ⟨i,s,rfl,hs,by omega⟩
  have m2:((j:Int),t.left)∈ys:=(h.mem _).2 ⟨j,t,rfl,ht,by omega⟩
  rcases pair_either h.ord m1 m2 (fun e=>hne (by have:=congrArg Prod.fst e;simp only at this;omega)) with c | c
  ·exact Or.inl ⟨s,t,hs,ht,c s t (by simpa using hs) (by simpa using ht)⟩
  ·exact Or.inr ⟨t,s,ht,hs,c t s (by simpa using ht) (by simpa using hs)⟩
 have hdue:(dueT k).Pairwise (Bef k):=by
  unfold dueT
  have hf:∀ x∈(List.range 16).filter (fun i=>match k.ts i with | some t=>decide (t.left=1) | none=>false),∃ t,k.ts x=some t/\t.left=1:=fun x hx=>by
   have:=(List.mem_filter.1 hx).2
   cases ht:k.ts x with
   | none=>rw [ht] at this;cases this
   | some t=>rw [ht] at this;exact⟨t,rfl,by simpa using this⟩
  refine foldS_bef htr _ [] List.Pairwise.nil (List.nodup_range.filter _) (fun x _ hc=>by cases hc) fun x hx y hy hne=>?_
  obtain⟨s,hs,h1⟩:=hf x hx
  obtain⟨t,ht,h2⟩:=hf y (by rw [List.nil_append] at hy;exact hy)
  exact hap x s hs h1 y t ht h2 hne
 refine sorted_same (R:=fun a b:Int=>Bef k a.toNat b.toNat) (fun a b ⟨s,t,h1,h2,h3⟩ ⟨u,v,h4,h5,h6⟩=>?_) ?_ ?_ fun x=>?_
 ·rw [h1] at h5;rw [h2] at h4
  obtain rfl:=Option.some.inj h5
  obtain rfl:=Option.some.inj h4
  omega
 ·unfold Tm.woke
  rw [List.pairwise_map]
  refine(List.Pairwise.filter _ (List.Pairwise.and_mem.1 h.ord)).imp fun {a b} ⟨ha,hb,hab⟩=>?_
  obtain⟨i,s,e1,hs,_⟩:=(h.mem a).1 ha
  obtain⟨j,t,e2,ht,_⟩:=(h.mem b).1 hb
  subst e1 e2
  exact⟨s,t,by simpa using hs,by simpa using ht,hab s t (by simpa using hs) (by simpa using ht)⟩
 ·rw [List.pairwise_map]
  exact hdue.imp fun {a b} hab=>by simpa using hab
 ·unfold Tm.woke
  simp only [List.mem_map,List.mem_filter,decide_eq_true_eq]
  constructor
  ·rintro ⟨y,⟨hy,h1⟩,rfl⟩
   obtain⟨i,t,e,ht,_⟩:=(h.mem y).1 hy
   subst e
   exact⟨i,dueT_mem.2 ⟨hi i t ht,t,ht,h1⟩,rfl⟩
  ·rintro ⟨i,hd,rfl⟩
   obtain⟨_,t,ht,h1⟩:=dueT_mem.1 hd
   exact⟨((i:Int),t.left),⟨(h.mem _).2 ⟨i,t,rfl,ht,by omega⟩,h1⟩,rfl⟩
theorem ends_downs{k:Kn}{ys:List (Int×Int)}(h:Ends k.ts k.wc ys)(hi:∀ i t,k.ts i=some t->i < 16):Ends (downs k).ts k.wc (Tm.rest ys):=by
 have fwd:∀ i t,k.ts i=some t->(downs k).ts i=some (if 0 < t.left/\i < 16 then { t with left:=t.left - 1 } else t):=fun i t ht=>by unfold downs;simp only [ht,Option.map_some]
 have bwd:∀ i u,(downs k).ts i=some u->∃ t,k.ts i=some t/\u=if 0 < t.left/\i < 16 then { t with left:=t.left - 1 } else t:=fun i u hu=>downs_t hu
 refine⟨fun y=>?_,?_,fun i u hu hl=>?_⟩
 ·unfold Tm.rest
  simp only [List.mem_map,List.mem_filter,decide_eq_true_eq]
  constructor
  ·rintro ⟨z,⟨hz,h1⟩,rfl⟩
   obtain⟨i,t,e,ht,hl⟩:=(h.mem z).1 hz
   subst e
   simp only at h1
   refine⟨i,_,?_,fwd i t ht,?_⟩
   ·rw [if_pos ⟨hl,hi i t ht⟩];rfl
   ·rw [if_pos ⟨hl,hi i t ht⟩];simp only;omega
  ·rintro ⟨i,u,rfl,hu,hl⟩
   obtain⟨t,ht,e⟩:=bwd i u hu
   have h16:=hi i t ht
   by_cases c:0 < t.left
   ·rw [if_pos ⟨c,h16⟩] at e
    subst e
    simp only at hl
    exact⟨((i:Int),t.left),⟨(h.mem _).2 ⟨i,t,rfl,ht,c⟩,by simp only;omega⟩,rfl⟩
   ·rw [if_neg (fun d=>c d.1)] at e
    subst e
    omega
 ·unfold Tm.rest
  rw [List.pairwise_map]
  refine(List.Pairwise.filter _ h.ord).imp fun {a b} hab s t hs ht=>?_
  obtain⟨s',hs',e1⟩:=bwd _ s hs
  obtain⟨t',ht',e2⟩:=bwd _ t ht
  have:=hab s' t' hs' ht'
  have f1:s.since=s'.since:=by rw [e1];split <;> rfl
  have f2:t.since=t'.since:=by rw [e2];split <;> rfl
  omega
 ·obtain⟨t,ht,e⟩:=bwd i u hu
  have f1:u.since=t.since:=by rw [e];split <;> rfl
  have f2:u.left<=t.left:=by rw [e];split;simp only;omega;omega
  rw [f1]
  exact h.top i t ht (by omega)
section
variable {o0:Nat->Nat} {w0 w w':World} {G:Geo} {k:Kn}
theorem k_dtick(h:St o0 w0 G w k):Calls Tryz.prog 45 #[.pointer (some ⟨G.ep,0,none⟩)] w fun x w'=>∃ us uc,x=.returned (.slice us (dueT k).length uc)/\w'.ownsRow w.heap.size 3 1 (.slice us (dueT k).length uc) (dueT k).length (((dueT k).map fun i:Nat=>(i:Int)).map (Value.int .i64))/\∃ own',St own' w' G w' (downs k)/\Ext o0 own' w0 w'/\∀ g,(Value.slice us (dueT k).length uc).ownBlock=some g->own' g=0:=by
 obtain⟨own,h,x⟩:=h
 obtain⟨h1,v,ys,h2,h3,h4⟩:=h.en (by decide)
 have hwd:=woke_due h4 h.ti
 have hwl:(Tm.woke ys).length=(dueT k).length:=by rw [hwd,List.length_map]
 refine(Tm.tick_is h3 (Nat.zero_le _)).mono fun e w' ⟨u,he,ho,_,v',hA,hb,hv⟩=>?_
 rw [hwl,hwd] at ho
 obtain⟨us,uc,rfl,_⟩:=own_form ho
 have hoff:=off_nt hb h1 h2
 obtain⟨gl,hgl,hgm⟩:∃ gl,w.heap.size<=gl/\((∀ g,(Value.slice us (dueT k).length uc).ownBlock=some g->g=gl)/\∀ g,v'.ownBlock=some g->g≠gl):=by
  cases hq:(Value.slice us (dueT k).length uc).ownBlock with
  | some gl=>exact⟨gl,(World.ownsRow.lt ho gl hq).1,fun g hg=>(Option.some.inj hg).symm,fun g hg=>told_ne ho hA.ch.own hq hg⟩
  | none=>exact⟨w'.heap.size,hoff.size,fun g hg=>(by cases hg),fun g hg=>by have:=(hA.ch.own.lt' hg).2;omega⟩
 have lp:=at_lt h3.ch.head
 refine⟨us,uc,he,ho,_,⟨_,(h.offL hoff hgl).shutEn (ts:=(downs k).ts) (wc:=k.wc) (fun i=>?_) ((extG_ne (by omega)).trans ((ext_cl (Cl.of hA.ch.head) lp).trans h1)) (fun g hg=>(extG_ne (hgm.2 g hg)).trans ?_) hA (ends_downs h4 h.ti),Ext.refl _ _⟩,x.trans (hoff.extG (by decide) hgl),fun g hg=>by rw [hgm.1 g hg];exact if_pos rfl⟩
 ·unfold downs
  simp only
  cases k.ts i with
  | none=>rfl
  | some t=>simp only [Option.map_some];congr 1;split <;> rfl
 ·rcases hv g hg with c | c
  ·exact(ext_cl (own_cl hA.ch.own hg) (h3.ch.own.lt' c).2).trans (h2 g c)
  ·exact ext_new (own_cl hA.ch.own hg) c
end
end Go.Proofs.YtbbdndfibjdcfaaGreat
namespace Go.Proofs.YtbbdndfibjdcfaaGreat
open Go Go.RowKit
theorem ranks_none{k:Kn}{g:Int}{D:Nat->Prop}(h:Core k g D)(hw:∀ i t,k.ts i=some t->t.wh≠5):ranksL (bases k) (whom k)=bases k:=by
 have hn:∀ i,i < 16->(whom k).getD i 0=-1:=fun i hi=>by
  rw [whom_at hi]
  cases ht:k.ts i with
  | none=>rfl
  | some t=>simp only;unfold whomT;rw [if_neg (fun c=>hw i t ht c.1)]
 have hv:Hr.Val (bases k) (whom k):=⟨by rw [bases_len,whom_len],by rw [bases_len];decide,fun i _=>bases_in h i,whom_plc k,fun i hi=>by rw [hn i (by rw [←whom_len k];exact hi)];omega⟩
 exact Hr.Lst.same hv (lst_of h) ⟨Hr.Mid.start _ _,fun i hi hc=>by rw [hn i (by rw [←whom_len k];exact hi)] at hc;omega⟩
theorem fold_same{α β:Type}{f:β->α->β}{b:β}(h:∀ a,f b a=b):∀ l:List α,l.foldl f b=b
 | []=>rfl
 | a :: r=>by rw [List.foldl_cons,h a];exact fold_same h r
theorem anew_same{k:Kn}{g:Int}{D:Nat->Prop}(h:Core k g D)(hr:∀ i t,k.ts i=some t->t.st≠3->t.rank=(ranksL (bases k) (whom k)).getD i 0):anew k=k:=by
 refine fold_same (fun i=>?_) _
 unfold turn1
 cases ht:k.ts i with
 | none=>rfl
 | some t =>
  simp only
  rw [if_pos]
  by_cases c:t.st=3
  ·exact Or.inl c
  ·exact Or.inr (hr i t ht c)
theorem still{k:Kn}{g:Int}{D:Nat->Prop}(h:Core k g D)(hw:∀ i t,k.ts i=some t->t.wh≠5/\t.rank=t.base):anew k=k:=by
 refine anew_same h fun i t ht h3=>?_
 rw [ranks_none h fun i t ht=>(hw i t ht).1,bases_at ht (h.hT i t ht).1,if_neg h3]
 exact(hw i t ht).2
theorem rm_at{X:Nat->List Int}(h:Rd.Good X)(a:Int){s:Nat}(hs:s < 32):Rd.rmX X a s=(X s).erase a:=by
 unfold Rd.rmX
 cases hc:Rd.rk X a with
 | none =>
  simp only
  rw [List.erase_of_not_mem (Rd.rk_none.1 hc s hs)]
 | some r =>
  obtain⟨h1,h2⟩:=Rd.rk_at hc
  simp only
  by_cases e:s=r
  ·subst e;rw [Rd.up_at]
  ·rw [Rd.up_ne _ _ e,List.erase_of_not_mem fun hm=>e (h.one s r a hs h1 hm h2)]
theorem join_at{X:Nat->List Int}(h:Rd.Good X){a r:Int}(ha:0<=a/\a<=255)(hr:0<=r/\r<=31):Rd.putX (Rd.rmX X a) a r r.toNat=(X r.toNat).erase a ++ [a]:=by
 have he:Rd.adE (Rd.rmX X a) a r=0:=by
  have hn:Rd.rk (Rd.rmX X a) a=none:=Rd.rk_none.2 fun s hs hm=>((rd_rm h a a hs).1 hm).2 rfl
  unfold Rd.adE
  rw [if_neg (by omega)]
  simp [Rd.rkb,hn]
 unfold Rd.putX
 rw [if_pos he,Rd.up_at,rm_at h a (by omega)]
def rot(m q:Nat):List Int:=(List.range m).map fun a=>(((q+a) % m:Nat):Int)
theorem rot_zero_succ(m:Nat):rot (m+1) 0=rot m 0 ++ [(m:Int)]:=by
 unfold rot
 rw [List.range_succ,List.map_append]
 congr 1
 ·refine List.map_congr_left fun a ha=>?_
  have:a < m:=by simpa using ha
  rw [Nat.zero_add,Nat.mod_eq_of_lt this,Nat.mod_eq_of_lt (by omega)]
 ·simp
theorem rot_head{m q:Nat}(hm:0 < m)(hq:q < m):rot m q=(q:Int) :: (List.range (m - 1)).map fun a=>(((q+1+a) % m:Nat):Int):=by
 obtain⟨p,rfl⟩:∃ p,m=p+1:=⟨m - 1,by omega⟩
 unfold rot
 rw [List.range_succ_eq_map,List.map_cons,List.map_map]
 congr 1
 ·show(((q+0) % (p+1):Nat):Int)=(q:Int)
  rw [Nat.add_zero,Nat.mod_eq_of_lt hq]
 ·refine List.map_congr_left fun a ha=>?_
  show(((q+(a+1)) % (p+1):Nat):Int)=(((q+1+a) % (p+1):Nat):Int)
  rw [show q+(a+1)=q+1+a by omega]
theorem rot_next{m q:Nat}(hm:0 < m)(hq:q < m):(rot m q).erase (q:Int) ++ [(q:Int)]=rot m ((q+1) % m):=by
 rw [rot_head hm hq,List.erase_cons_head]
 obtain⟨p,rfl⟩:∃ p,m=p+1:=⟨m - 1,by omega⟩
 unfold rot
 rw [List.range_succ,List.map_append]
 congr 1
 ·refine List.map_congr_left fun a ha=>?_
  rw [Nat.mod_add_mod]
 ·simp only [List.map_cons,List.map_nil]
  congr 1
  congr 1
  rw [Nat.mod_add_mod,show q+1+p=q+(p+1) by omega,Nat.add_mod_right,Nat.mod_eq_of_lt hq]
theorem rot_mem{m q:Nat}(hm:0 < m){z:Int}(h:z∈rot m q):∃ j,j < m/\z=((j:Nat):Int):=by
 unfold rot at h
 obtain⟨a,_,e⟩:=List.mem_map.1 h
 exact⟨(q+a) % m,Nat.mod_lt _ hm,e.symm⟩
structure Slc (k:Kn) (n m:Nat) (r:Int) (now:Int) (q v:Nat):Prop where
 fin:Fin k
 sl:k.sl=(n:Int)
 nw:k.now=now
 al:k.al=[]
 th:∀ j,k.th j=if j < m then(1,true) else(0,false)
 ts:∀ j,j < m->k.ts j=some ⟨256+j,1,false,r,r,0,0,0,0,0,0,0,0,0,-1,0,if j=q then(v:Int) else 0⟩
 no:∀ j,m<=j->k.ts j=none
 rd:k.rd r.toNat=rot m q
theorem Slc.start{n:Nat}{r:Int}(now:Int)(hr:0<=r/\r<=31):Slc (new0 n now) n 0 r now 0 0 :=
 ⟨Fin.new _ _,rfl,rfl,rfl,fun j=>by rw [if_neg (by omega)];rfl,fun j hj=>by omega,fun j _=>rfl,rfl⟩
theorem Slc.quiet{k:Kn}{n m:Nat}{r now:Int}{q v:Nat}(h:Slc k n m r now q v){j:Nat}{t:Ta}(ht:k.ts j=some t):j < m/\t.wh≠5/\t.rank=t.base/\t.rank=r/\t.left=0/\t.st=1/\t.h=256+j:=by
 rcases Nat.lt_or_ge j m with c | c
 ·rw [h.ts j c] at ht
  obtain rfl:_=t:=by simpa using ht
  exact⟨c,by simp,rfl,rfl,rfl,rfl,rfl⟩
 ·rw [h.no j c] at ht;cases ht
theorem Slc.born{k:Kn}{n m:Nat}{r now:Int}(h:Slc k n m r now 0 0)(hm:m < 16)(hr:0<=r/\r<=31):(taskK k r).1=256+m/\(taskK k r).2.1=0/\Slc (taskK k r).2.2 n (m+1) r now 0 0:=by
 have hF:=h.fin.taskK r
 have hfr:Hd.fr 16 k.th=m:=Hd.fr_is (by omega) (fun j hj=>by rw [h.th j,if_pos hj];rfl) (fun _=>by rw [h.th m,if_neg (by omega)];rfl)
 have hE:Hd.makeE 16 k.th=0:=by unfold Hd.makeE;rw [hfr,if_pos hm]
 have hH:Hd.makeH 16 k.th=256+m:=by unfold Hd.makeH;rw [hfr,if_pos hm,h.th m,if_neg (by omega)];show(0+1) * 256+m=256+m;omega
 have hS:Hd.makeS 16 k.th=Hd.upd k.th m (1,true):=by unfold Hd.makeS;rw [hfr,if_pos hm,h.th m,if_neg (by omega)]
 have e:taskK k r=(256+m,0,anew (join { k with th:=Hd.upd k.th m (1,true),ts:=set1 k.ts m (some ⟨256+m,1,false,r,r,0,0,0,0,0,0,0,0,0,-1,0,0⟩) } m)):=by
  unfold taskK
  rw [if_neg (by omega),if_neg (fun c=>c hE)]
  simp only [hfr,hH,hS]
 have ej:join { k with th:=Hd.upd k.th m (1,true),ts:=set1 k.ts m (some ⟨256+m,1,false,r,r,0,0,0,0,0,0,0,0,0,-1,0,0⟩) } m={ k with th:=Hd.upd k.th m (1,true),ts:=set1 k.ts m (some ⟨256+m,1,false,r,r,0,0,0,0,0,0,0,0,0,-1,0,0⟩),rd:=Rd.putX (Rd.rmX k.rd (m:Int)) (m:Int) r }:=by
  unfold join
  simp only [set1_at,set1_set1]
 rw [e,ej] at hF ⊢
 have hc:Core { k with th:=Hd.upd k.th m (1,true),ts:=set1 k.ts m (some ⟨256+m,1,false,r,r,0,0,0,0,0,0,0,0,0,-1,0,0⟩),rd:=Rd.putX (Rd.rmX k.rd (m:Int)) (m:Int) r } 0 NoD:=by
  obtain⟨a1,a2,a3,a4,a5⟩:=make_ok h.fin.core.th hE
  rw [hS] at a5
  exact h.fin.core.born (t':=⟨256+m,1,false,r,r,0,0,0,0,0,0,0,0,0,-1,0,0⟩) hm (h.no m (Nat.le_refl _)) (y:=(1,true)) rfl rfl a5 rfl rfl rfl rfl (by unfold Hd.hd;simp only;rw [Hd.upd_at];show 256+m=1 * 256+m;omega) ⟨rfl,rfl⟩ ⟨Or.inl rfl,hr,hr,by simp,by simp,fun c=>(by cases c),fun c=>(by cases c),fun _=>⟨rfl,rfl,rfl,rfl,rfl,rfl,rfl⟩⟩
 have hts:∀ j t,set1 k.ts m (some (⟨256+m,1,false,r,r,0,0,0,0,0,0,0,0,0,-1,0,0⟩:Ta)) j=some t->t.wh≠5/\t.rank=t.base:=fun j t ht=>by
  by_cases c:j=m
  ·subst c;rw [set1_at] at ht
   obtain rfl:_=t:=by simpa using ht
   exact⟨by simp,rfl⟩
  ·rw [set1_ne _ _ c] at ht
   obtain⟨_,a,b,_⟩:=h.quiet ht
   exact⟨a,b⟩
 rw [still hc hts] at hF ⊢
 refine⟨rfl,rfl,hF,h.sl,h.nw,h.al,fun j=>?_,fun j hj=>?_,fun j hj=>?_,?_⟩
 ·simp only
  by_cases c:j=m
  ·subst c;rw [Hd.upd_at,if_pos (by omega)]
  ·rw [Hd.upd_ne _ _ c,h.th j]
   by_cases d:j < m
   ·rw [if_pos d,if_pos (by omega)]
   ·rw [if_neg d,if_neg (by omega)]
 ·simp only
  by_cases c:j=m
  ·subst c;rw [set1_at];congr 2;split <;> rfl
  ·rw [set1_ne _ _ c];exact h.ts j (by omega)
 ·simp only
  rw [set1_ne _ _ (by omega)];exact h.no j (by omega)
 ·simp only
  rw [join_at h.fin.core.rdG (by omega) hr,h.rd,rot_zero_succ,List.erase_of_not_mem]
  intro hm
  rcases Nat.eq_zero_or_pos m with c | c
  ·subst c;simp [rot] at hm
  ·obtain⟨j,hj,e⟩:=rot_mem c hm
   omega
theorem downs_same{k:Kn}(h:∀ i t,k.ts i=some t->t.left<=0):downs k=k:=by
 have:(downs k).ts=k.ts:=by
  funext i
  show(k.ts i).map _=k.ts i
  cases ht:k.ts i with
  | none=>rfl
  | some t =>
   simp only [Option.map_some]
   rw [if_neg (fun c=>by have:=h i t ht;omega)]
 unfold downs at this ⊢
 simp only at this
 rw [this]
theorem due_none{k:Kn}(h:∀ i t,k.ts i=some t->t.left<=0):dueT k=[]:=by
 cases hd:dueT k with
 | nil=>rfl
 | cons a l =>
  obtain⟨_,t,ht,hl⟩:=dueT_mem.1 (show a∈dueT k by rw [hd];simp)
  have:=h a t ht
  omega
theorem tick_quiet{k:Kn}(h:Fin k)(hl:∀ i t,k.ts i=some t->t.left<=0)(hw:∀ i t,k.ts i=some t->t.wh≠5/\t.rank=t.base)(ha:k.al=[]):tickK k=slice1 { k with now:=(k.now+1) % 4294967296 }:=by
 have hc:Core (slice1 { k with now:=(k.now+1) % 4294967296 }) 0 NoD:=(h.core.now _).slice1
 have hs:=stp_slice1 { k with now:=(k.now+1) % 4294967296 }
 have hback:∀ i t,(slice1 { k with now:=(k.now+1) % 4294967296 }).ts i=some t->∃ t0,k.ts i=some t0/\t.left=t0.left/\t.wh=t0.wh:=fun i t ht=>by
  cases h0:k.ts i with
  | none=>rw [(hs i).2 h0] at ht;cases ht
  | some t0 =>
   obtain⟨u,hu,e⟩:=(hs i).1 t0 h0
   rw [ht] at hu
   obtain rfl:t=u:=by simpa using hu
   have e:SameA t0 t:=e.elim id fun c=>c.2.2.2.2.2.2.elim
   unfold SameA at e
   exact⟨t0,rfl,by rw [e],by rw [e]⟩
 have hsl:(slice1 { k with now:=(k.now+1) % 4294967296 }).al=[]/\(∀ i t,(slice1 { k with now:=(k.now+1) % 4294967296 }).ts i=some t->t.rank=t.base):=by
  unfold slice1
  split
  ·dsimp only
   cases ht:k.ts (Rd.fsv k.rd).toNat with
   | none=>exact⟨ha,fun i t ht=>(hw i t ht).2⟩
   | some t0 =>
    have hset:∀ v i t,set1 k.ts (Rd.fsv k.rd).toNat (some { t0 with ran:=v }) i=some t->t.rank=t.base:=fun v i t hi=>by
     by_cases c:i=(Rd.fsv k.rd).toNat
     ·rw [c,set1_at] at hi
      obtain rfl:_=t:=by simpa using hi
      exact(hw _ t0 ht).2
     ·rw [set1_ne _ _ c] at hi;exact(hw i t hi).2
    simp only
    split
    ·refine⟨?_,?_⟩
     ·rw [(rest_join _ _).al];exact ha
     ·unfold join Kn.setT
      simp only [set1_at,set1_set1]
      exact hset 0
    ·exact⟨ha,hset _⟩
  ·exact⟨ha,fun i t ht=>(hw i t ht).2⟩
 have e1:anew (slice1 { k with now:=(k.now+1) % 4294967296 })=slice1 { k with now:=(k.now+1) % 4294967296 }:=still hc fun i t ht=>by
  obtain⟨t0,a,b,c⟩:=hback i t ht
  exact⟨by rw [c];exact(hw i t0 a).1,hsl.2 i t ht⟩
 rw [tick_eq k _ e1.symm _ rfl]
 have hl':∀ i t,(slice1 { k with now:=(k.now+1) % 4294967296 }).ts i=some t->t.left<=0:=fun i t ht=>by
  obtain⟨t0,a,b,_⟩:=hback i t ht
  rw [b];exact hl i t0 a
 rw [downs_same hl',due_none hl']
 show((Tm.due (slice1 _).al).map Prod.fst).foldl ring1 { slice1 _ with al:=Tm.tickL (slice1 _).al }=_
 have hz:=hsl.1
 generalize slice1 { k with now:=(k.now+1) % 4294967296 }=k1 at *
 obtain⟨z1,_⟩:=hsl
 cases k1
 simp only at z1
 subst z1
 rfl
theorem Slc.first{k:Kn}{n m:Nat}{r now:Int}{q v:Nat}(h:Slc k n m r now q v)(hr:0<=r/\r<=31)(hm:0 < m)(hq:q < m):Rd.fsb k.rd=true/\Rd.fsv k.rd=(q:Int)/\runs k=256+q:=by
 have hh:k.rd r.toNat=(q:Int) :: (List.range (m - 1)).map fun a=>(((q+1+a) % m:Nat):Int):=by rw [h.rd];exact rot_head hm hq
 rcases runs_is h.fin.core with⟨_,_,c⟩ |⟨i,t,b1,b2,b3,b4,b5,b6,b7,b8⟩
 ·exact absurd ⟨rfl,rfl⟩ (c 0 _ (h.ts 0 hm))
 ·obtain⟨t',r',c1,c2,c3,c4,c5,c6,c7,c8⟩:=h.fin.core.first b1
  obtain⟨_,_,_,e1,_⟩:=h.quiet c4
  have:r'=r.toNat:=by omega
  rw [this,hh] at c8
  have e2:Rd.fsv k.rd=(q:Int):=by simpa using c8.symm
  refine⟨b1,e2,?_⟩
  rw [b4]
  obtain⟨_,_,_,_,_,_,e3⟩:=h.quiet b3
  omega
theorem Slc.tick{k:Kn}{n m:Nat}{r now:Int}{q v:Nat}(h:Slc k n m r now q v)(hr:0<=r/\r<=31)(hm:0 < m)(hm2:m<=16)(hq:q < m):Slc (tickK k) n m r ((now+1) % 4294967296) (if n<=v+1 then(q+1) % m else q) (if n<=v+1 then 0 else v+1):=by
 obtain⟨f1,f2,_⟩:=h.first hr hm hq
 have hF:=h.fin.tickK
 have e:=tick_quiet h.fin (fun i t ht=>by have:=(h.quiet ht).2.2.2.2.1;omega) (fun i t ht=>⟨(h.quiet ht).2.1,(h.quiet ht).2.2.1⟩) h.al
 have hq':(Rd.fsv k.rd).toNat=q:=by omega
 have e2:slice1 { k with now:=(k.now+1) % 4294967296 }=if n<=v+1 then { k with now:=(k.now+1) % 4294967296,ts:=set1 k.ts q (some ⟨256+q,1,false,r,r,0,0,0,0,0,0,0,0,0,-1,0,0⟩),rd:=Rd.putX (Rd.rmX k.rd (q:Int)) (q:Int) r } else { k with now:=(k.now+1) % 4294967296,ts:=set1 k.ts q (some ⟨256+q,1,false,r,r,0,0,0,0,0,0,0,0,0,-1,0,((v+1:Nat):Int)⟩) }:=by
  unfold slice1
  simp only
  rw [if_pos f1,hq',h.ts q hq]
  simp only [if_pos]
  rw [h.sl]
  by_cases c:n<=v+1
  ·rw [if_pos c,if_pos (by omega)]
   unfold join Kn.setT
   simp only [set1_at,set1_set1]
  ·rw [if_neg c,if_neg (by omega)]
   unfold Kn.setT
   rfl
 rw [e,e2] at hF ⊢
 by_cases c:n<=v+1
 ·simp only [if_pos c] at hF ⊢
  refine⟨hF,h.sl,by show(k.now+1) % 4294967296=_;rw [h.nw],h.al,h.th,fun j hj=>?_,fun j hj=>?_,?_⟩
  ·simp only
   by_cases d:j=q
   ·subst d;rw [set1_at];congr 2;split <;> rfl
   ·rw [set1_ne _ _ d,h.ts j hj,if_neg d]
    congr 2;split <;> rfl
  ·simp only
   rw [set1_ne _ _ (by omega)];exact h.no j hj
  ·simp only
   rw [join_at h.fin.core.rdG (by omega) hr,h.rd]
   exact rot_next hm hq
 ·simp only [if_neg c] at hF ⊢
  refine⟨hF,h.sl,by show(k.now+1) % 4294967296=_;rw [h.nw],h.al,h.th,fun j hj=>?_,fun j hj=>?_,h.rd⟩
  ·simp only
   by_cases d:j=q
   ·subst d;rw [set1_at,if_pos rfl]
   ·rw [set1_ne _ _ d,h.ts j hj,if_neg d,if_neg d]
  ·simp only
   rw [set1_ne _ _ (by omega)];exact h.no j hj
theorem Slc.at{k:Kn}{n m:Nat}{r:Int}(h:Slc k n m r 4294967290 0 0)(hn:0 < n)(hr:0<=r/\r<=31)(hm:0 < m)(hm2:m<=16):∀ i:Nat,Slc (ticksK k i) n m r ((4294967290+(i:Int)) % 4294967296) (i / n % m) (i % n)
 | 0=>by
  rw [Nat.zero_div,Nat.zero_mod,Nat.zero_mod]
  exact h
 | i+1=>by
  have hi:=Slc.at h hn hr hm hm2 i
  have hq:i / n % m < m:=Nat.mod_lt _ hm
  have ht:=hi.tick hr hm hm2 hq
  have hlt:i % n < n:=Nat.mod_lt _ hn
  have hdm:=Nat.div_add_mod i n
  have e1:(((4294967290+(i:Int)) % 4294967296)+1) % 4294967296=(4294967290+((i+1:Nat):Int)) % 4294967296:=by omega
  rw [e1] at ht
  show Slc (tickK (ticksK k i)) _ _ _ _ _ _
  by_cases c:n<=i % n+1
  ·rw [if_pos c,if_pos c] at ht
   have e2:i+1=n * (i / n+1):=by rw [Nat.mul_add,Nat.mul_one];omega
   have e3:(i+1) / n=i / n+1:=by rw [e2];exact Nat.mul_div_cancel_left _ hn
   have e4:(i+1) % n=0:=by rw [e2];exact Nat.mul_mod_right _ _
   rw [e3,e4,←Nat.mod_add_mod]
   exact ht
  ·rw [if_neg c,if_neg c] at ht
   have e2:i+1=n * (i / n)+(i % n+1):=by omega
   have e3:(i+1) / n=i / n:=by
    rw [e2,Nat.mul_add_div hn,Nat.div_eq_of_lt (Nat.lt_of_not_le c),Nat.add_zero]
   have e4:(i+1) % n=i % n+1:=by
    rw [e2,Nat.mul_add_mod,Nat.mod_eq_of_lt (Nat.lt_of_not_le c)]
   rw [e3,e4]
   exact ht
section
variable {o0:Nat->Nat} {w0 w w':World} {G:Geo} {k:Kn}
theorem over0{D:Nat->Prop}(h:Core k 0 D)(hs:SelfK k){i:Nat}{t:Ta}(ht:k.ts i=some t)(e:Int)(he:0<=e/\e<=15):Core (answer k i e 0) 0 D/\SelfK (answer k i e 0):=⟨h.answer ht he,hs.mono (mono_answer k i e 0)⟩
theorem isOver_any{D:Nat->Prop}(h:St o0 w0 G w k)(hc:Core k 0 D)(hs:SelfK k){i:Nat}{t:Ta}(ht:k.ts i=some t):Calls Tryz.prog 46 #[.pointer (some ⟨G.kp,0,none⟩),.pointer (some ⟨G.tp i,0,none⟩)] w fun e w'=>e=.returned (.tuple #[])/\St o0 w0 G w' (over1 k i):=by
 have d5:=h.d5 ht
 have hon:=(hc.nm (by omega)).on i t ht
 by_cases hw:t.wh=2
 ·have HE:Hid (over1 k i=anew (answer k i 0 0)):=show _=_ by unfold over1;simp only [ht,if_pos hw]
  obtain⟨hc1,hs1⟩:=over0 hc hs ht 0 (by omega)
  have HTell:Hid (∀ wx,St o0 w0 G wx (answer k i 0 0)->CallsD Tryz.prog 52 #[.pointer (some ⟨G.kp,0,none⟩)] .returning wx fun e u' w'=>u'=.returning/\(e=.returned (.tuple #[])/\St o0 w0 G w' (anew (answer k i 0 0)))):=fun wx hx=>tell_any hx hc1 hx.kd hs1 _
  have HAN:=answer_any h ht hon 0 0
  rw [hc.answerC ht] at HAN
  rw [hw] at d5
  clear h hc hs ht hon hw hc1 hs1
  go_enter_defers Tryz.func46,Tryz.ntmps46
  go_wp2_with (first |(go_at_call 56;refine HAN.mono ?_;rintro e w1 ⟨rfl,h1⟩;have S1:Hid (St o0 w0 G w1 (answer k i 0 0)):=h1;clear h1))
  refine leaves_cons (f:=52) (args:=#[.pointer (some ⟨G.kp,0,none⟩)]) (by simp) (by simp [go_sem]) ?_
  refine(HTell.out _ S1.out).mono ?_
  rintro e u' w'' ⟨rfl,rfl,h9⟩
  rw [HE.out]
  exact⟨_,results_none rfl _ _ _,rfl,h9⟩
 ·have HE:Hid (over1 k i=anew (answer k i 8 0)):=show _=_ by unfold over1;simp only [ht,if_neg hw]
  have hw':(t.wh == 2)=false:=by simpa using hw
  obtain⟨hc1,hs1⟩:=over0 hc hs ht 8 (by omega)
  have HTell:Hid (∀ wx,St o0 w0 G wx (answer k i 8 0)->CallsD Tryz.prog 52 #[.pointer (some ⟨G.kp,0,none⟩)] .returning wx fun e u' w'=>u'=.returning/\(e=.returned (.tuple #[])/\St o0 w0 G w' (anew (answer k i 8 0)))):=fun wx hx=>tell_any hx hc1 hx.kd hs1 _
  have HAN:=answer_any h ht hon 8 0
  rw [hc.answerC ht] at HAN
  clear h hc hs ht hon hw hc1 hs1
  go_enter_defers Tryz.func46,Tryz.ntmps46
  go_wp2_with (first |(go_at_call 56;refine HAN.mono ?_;rintro e w1 ⟨rfl,h1⟩;have S1:Hid (St o0 w0 G w1 (answer k i 8 0)):=h1;clear h1))
  refine leaves_cons (f:=52) (args:=#[.pointer (some ⟨G.kp,0,none⟩)]) (by simp) (by simp [go_sem]) ?_
  refine(HTell.out _ S1.out).mono ?_
  rintro e u' w'' ⟨rfl,rfl,h9⟩
  rw [HE.out]
  exact⟨_,results_none rfl _ _ _,rfl,h9⟩
theorem Fin.anew{k:Kn}(h:Fin k):YtbbdndfibjdcfaaGreat.anew k=k:=anew_same h.core h.ranked.rank
theorem rest_signal1(k:Kn)(z v:Nat):Rest k (signal1 k z v).2:=by
 unfold signal1
 split
 ·exact Rest.refl k
 ·simp only
  cases hx:k.os (Hd.placeP k.oh z) with
  | none=>exact Rest.refl k
  | some x =>
   simp only
   split
   ·generalize Ob.tA x.x 1 (if x.x.k=1 then 4 else 12) (if x.x.k=1 then 0 else v) 0=r
    by_cases h0:r.2.1=0
    ·rw [if_pos h0]
     exact(⟨rfl,rfl,rfl,rfl,rfl,rfl⟩:Rest k (k.setO (Hd.placeP k.oh z) { x with x:=r.2.2 })).trans (rest_serve _ _)
    ·rw [if_neg h0]
     exact⟨rfl,rfl,rfl,rfl,rfl,rfl⟩
   ·exact Rest.refl k
theorem dueT_len(k:Kn):(dueT k).length<=16:=by
 unfold dueT
 rw [(insS_fold k _ []).length_eq,List.nil_append]
 exact Nat.le_trans (List.length_filter_le _ _) (by simp)
theorem rest_ring1(k:Kn)(o:Int):Rest k (ring1 k o):=by
 unfold ring1
 split
 ·exact(rest_signal1 k _ _).trans (rest_anew _)
 ·exact Rest.refl k
theorem ring1_signal{k:Kn}(h:Fin k){o:Int}{x:Th}(hx:k.os o.toNat=some x):ring1 k o=(signalK k x.x.a.toNat x.x.b.toNat).2:=by
 unfold ring1 signalK
 simp only [hx]
 split
 ·rfl
 ·rename_i h0
  have:=(h.pre.signal1 x.x.a.toNat x.x.b.toNat).2 h0
  show YtbbdndfibjdcfaaGreat.anew (signal1 k x.x.a.toNat x.x.b.toNat).2=(signal1 k x.x.a.toNat x.x.b.toNat).2
  rw [this]
  exact h.anew
theorem over1_some{k:Kn}{i j:Nat}{t:Ta}(ht:k.ts j=some t):∃ u,(over1 k i).ts j=some u:=by
 unfold over1
 cases hu:k.ts i with
 | none =>
  simp only
  obtain⟨u,h1,_⟩:=anew_back ht
  exact⟨u,h1⟩
 | some s =>
  simp only
  have h2:∃ u,(answer k i (if s.wh=2 then 0 else 8) 0).ts j=some u:=by
   rw [answer_ts hu]
   by_cases e:j=i
   ·subst e;exact⟨_,set1_at _ _ _⟩
   ·exact⟨t,by rw [set1_ne _ _ e];exact ht⟩
  obtain⟨u,hu⟩:=h2
  obtain⟨v,h1,_⟩:=anew_back hu
  exact⟨v,h1⟩
theorem overs_some{j:Nat}:∀ (l:List Nat) {k:Kn} {t:Ta},k.ts j=some t->∃ u,(l.foldl over1 k).ts j=some u
 | [],_,t,h=>⟨t,h⟩
 | i :: l,_,_,h=>by
  obtain⟨u,hu⟩:=over1_some (i:=i) h
  exact overs_some l hu
structure Ov (D:Nat->Prop) (k:Kn):Prop where
 core:Core k 0 D
 self:SelfK k
theorem Ov.step{D:Nat->Prop}{k:Kn}(h:Ov D k)(i:Nat):Ov D (over1 k i):=⟨h.core.over1 i,h.self.mono (mono_over1 k i)⟩
theorem Ov.steps{D:Nat->Prop}:∀ (l:List Nat) {k:Kn},Ov D k->Ov D (l.foldl over1 k)
 | [],_,h=>h
 | i :: l,_,h=>Ov.steps l (h.step i)
theorem Fin.al{k:Kn}(h:Fin k)(l:List (Int×Int×Int)):Fin { k with al:=l }:=⟨h.core.al _,⟨h.ranked.rank,h.ranked.base⟩,h.srv,h.self⟩
theorem rings_oh(l:List Int)(k:Kn):(l.foldl ring1 k).oh=k.oh:=(rest_fold rest_ring1 l k).oh
theorem rings_some{k:Kn}(h:Fin k)(l:List Int){o:Nat}{x:Th}(hx:k.os o=some x):∃ y,(l.foldl ring1 k).os o=some y:=by
 have h1:=(Fin.rings l k h).core.ohO o
 rw [rings_oh,h.core.ohO o,hx] at h1
 exact Option.isSome_iff_exists.1 h1.symm
theorem take_snoc{α:Type}(l:List α){n:Nat}(h:n < l.length)(d:α):l.take (n+1)=l.take n ++ [l.getD n d]:=by
 rw [List.take_succ_eq_append_getElem h]
 simp [h]
theorem tick_any(h:St o0 w0 G w k)(hG:Shown G)(hf:Fin k)(hran:∀ i t,k.ts i=some t->0<=t.ran/\t.ran<=1000000000):Calls Tryz.prog 14 #[.pointer (some ⟨G.kp,0,none⟩)] w fun e w'=>e=.returned (.int .i64 0)/\St o0 w0 G w' (tickK k):=by
 have HTH:=there_any h h.slo.1.1
 have HPS:=pass_any h hf hran
 have hn:Fin { k with now:=(k.now+1) % 4294967296 }:=⟨hf.core.now _,⟨hf.ranked.rank,hf.ranked.base⟩,hf.srv,hf.self⟩
 have hF1:Fin (anew (slice1 { k with now:=(k.now+1) % 4294967296 })):=hn.mono hn.core.slice1 (mono_slice1 _)
 have HE:Hid (tickK k=((Tm.due (overs (downs (anew (slice1 { k with now:=(k.now+1) % 4294967296 }))) (dueT (anew (slice1 { k with now:=(k.now+1) % 4294967296 })))).al).map Prod.fst).foldl ring1 { overs (downs (anew (slice1 { k with now:=(k.now+1) % 4294967296 }))) (dueT (anew (slice1 { k with now:=(k.now+1) % 4294967296 }))) with al:=Tm.tickL (overs (downs (anew (slice1 { k with now:=(k.now+1) % 4294967296 }))) (dueT (anew (slice1 { k with now:=(k.now+1) % 4294967296 })))).al }):=tick_eq k _ rfl _ rfl
 generalize anew (slice1 { k with now:=(k.now+1) % 4294967296 })=k1 at *
 have HF1:Hid (Fin k1):=hF1
 have hO:=hF1.over
 have HOV:Hid (Ov (fun i=>∃ t,k1.ts i=some t/\t.left=1) (downs k1)):=⟨hF1.core.downs,hF1.self.mono (mono_downs k1)⟩
 have HDU:Hid (∀ n,n < (dueT k1).length->∃ t,(downs k1).ts ((dueT k1).getD n 0)=some t):=fun n hn=>by
  have hm:(dueT k1).getD n 0∈dueT k1:=by rw [List.getD_eq_getElem?_getD,List.getElem?_eq_getElem hn];exact List.getElem_mem _
  obtain⟨_,t,ht,_⟩:=dueT_mem.1 hm
  obtain⟨u,hu,_⟩:=downs_s ht
  exact⟨u,hu⟩
 obtain⟨D,hD⟩:∃ D:Nat->Prop,(fun i=>∃ t,k1.ts i=some t/\t.left=1)=D:=⟨_,rfl⟩
 rw [hD] at HOV
 have HOE:Hid (overs (downs k1) (dueT k1)=(dueT k1).foldl over1 (downs k1)):=rfl
 have HFO:Hid (Fin (overs (downs k1) (dueT k1))):=hO
 have HLD:Hid ((dueT k1).length<=16):=dueT_len k1
 clear h hf hran hn hF1 hO hD
 obtain⟨m,hm⟩:∃ m,(dueT k1).length=m:=⟨_,rfl⟩
 have HM:Hid ((dueT k1).length=m):=hm
 rw [hm] at HLD HDU
 have HDT:Hid (∀ wx,St o0 w0 G wx k1->Calls Tryz.prog 45 #[.pointer (some ⟨G.ep,0,none⟩)] wx fun x w'=>∃ us uc,x=.returned (.slice us m uc)/\w'.ownsRow wx.heap.size 3 1 (.slice us m uc) m (((dueT k1).map fun i:Nat=>(i:Int)).map (Value.int .i64))/\∃ own',St own' w' G w' (downs k1)/\Ext o0 own' w0 w'/\∀ g,(Value.slice us m uc).ownBlock=some g->own' g=0):=fun wx hx=>by
  have:=k_dtick hx
  rw [hm] at this
  exact this
 clear hm
 have hmI:(m:Int)<=16:=by have:=HLD.out;omega
 go_enter Tryz.func14,Tryz.ntmps14
 go_wp2_with (first
  |(go_at_call 41;refine HTH.mono ?_;rintro e wx ⟨rfl,rfl⟩)
  |(go_at_call 44;refine HPS.mono ?_;rintro e w1 ⟨rfl,h1⟩;have S1:Hid (St o0 w0 G w1 k1):=h1;have c7:=h1.c7;clear h1)
  |(go_at_call 45;refine(HDT.out _ S1.out).mono ?_;rintro e w2 ⟨us,uc,rfl,ho,own,hA,hX,hgo⟩;have HO:Hid (w2.ownsRow w1.heap.size 3 1 (.slice us m uc) m (((dueT k1).map fun i:Nat=>(i:Int)).map (Value.int .i64))):=ho;have HA:Hid (St own w2 G w2 (downs k1)):=hA;have HX:Hid (Ext o0 own w0 w2):=hX;have HGO:Hid (∀ g,(Value.slice us m uc).ownBlock=some g->own g=0):=hgo;clear ho hA hX hgo))
 have HSP:Hid (0 < m->∃ gb,us=some ⟨gb,0,none⟩/\own gb=0/\∀ j,j < m->w2.cell? ⟨gb,j,none⟩=some (.int .i64 (((dueT k1).getD j 0:Nat)))):=fun hm0=>by
  obtain⟨gb,c2,e,_,_⟩:=owns_spot HO.out hm0
  simp only [Value.slice.injEq] at e
  obtain⟨rfl,_,rfl⟩:=e
  refine⟨gb,rfl,HGO.out gb rfl,fun j hj=>?_⟩
  have hlk:(dueT k1).length=m:=HM.out
  rw [HO.out.cellAt j (by omega)]
  simp [hlk,hj]
 clear HO HGO HDT HPS HTH
 go_loopg [19] m (fun n s0 wx=>∃ i:Nat,i+n=m/\s0=.int .i64 i/\Hid (St own w2 G wx (((dueT k1).take i).foldl over1 (downs k1))))
 case atStart=>exact⟨0,by omega,rfl,HA⟩
 case round =>
  obtain⟨i,hig,rfl,HR⟩:=hrel
  cases gk with
  | zero =>
   obtain rfl:i=m:=by omega
   have hlt:¬ ((i:Int) < i):=by omega
   have hR:=HR.out
   rw [List.take_of_length_le (Nat.le_of_eq HM.out),←HOE.out] at hR
   have HR2:Hid (St own w2 G wr (overs (downs k1) (dueT k1))):=hR
   have c8:=hR.c8
   have HXS:Hid (XsOk (overs (downs k1) (dueT k1)).os (overs (downs k1) (dueT k1)).al):=hR.xs
   clear hR HR HDU HOV HSP HM HOE
   generalize overs (downs k1) (dueT k1)=k2 at *
   obtain⟨m2,hm2⟩:∃ m2,(Tm.due k2.al).length=m2:=⟨_,rfl⟩
   have HM2:Hid ((Tm.due k2.al).length=m2):=hm2
   have HAT:=k_atick HR2.out
   rw [hm2] at HAT
   clear hm2
   go_wp2_with (first
    |(go_at_call 47;refine HAT.mono ?_;rintro e w3 ⟨us3,uc3,rfl,ho3,own3,hA3,hX3,hgo3⟩;have HO3:Hid (w3.ownsRow wr.heap.size 3 1 (.slice us3 m2 uc3) m2 (num ((Tm.due k2.al).map Prod.fst))):=ho3;have HA3:Hid (St own3 w3 G w3 { k2 with al:=Tm.tickL k2.al }):=hA3;have HX3:Hid (Ext own own3 w2 w3):=hX3;have HGO3:Hid (∀ g,(Value.slice us3 m2 uc3).ownBlock=some g->own3 g=0):=hgo3;clear ho3 hA3 hX3 hgo3))
   obtain⟨_,_,_,_,_,hmx⟩:=own_form HO3.out
   have hml:maxLen<=9223372036854775807:=by decide
   have hm2:m2<=9223372036854775807:=by omega
   have hm2I:(m2:Int)<=9223372036854775807:=by omega
   have HSP3:Hid (0 < m2->∃ gb,us3=some ⟨gb,0,none⟩/\own3 gb=0/\∀ j,j < m2->w3.cell? ⟨gb,j,none⟩=some (.int .i64 (((Tm.due k2.al).map Prod.fst).getD j 0))):=fun hm0=>by
    obtain⟨gb,c2,e,_,_⟩:=owns_spot HO3.out hm0
    simp only [Value.slice.injEq] at e
    obtain⟨rfl,_,rfl⟩:=e
    refine⟨gb,rfl,HGO3.out gb rfl,fun j hj=>?_⟩
    have hlk:(Tm.due k2.al).length=m2:=HM2.out
    rw [HO3.out.cellAt j (by omega)]
    simp [num,hlk,hj]
   have HF3:Hid (Fin { k2 with al:=Tm.tickL k2.al }):=HFO.out.al _
   have HXX:Hid (Ext o0 own3 w0 w3):=HX.out.trans HX3.out
   have HKL:Hid (((Tm.due k2.al).map Prod.fst).length=m2):=by show _=_;rw [List.length_map];exact HM2.out
   have HKX:Hid (∀ j,j < m2->0<=((Tm.due k2.al).map Prod.fst).getD j 0/\∃ x,k2.os (((Tm.due k2.al).map Prod.fst).getD j 0).toNat=some x):=fun j hj=>by
    have hmem:((Tm.due k2.al).map Prod.fst).getD j 0∈(Tm.due k2.al).map Prod.fst:=by rw [List.getD_eq_getElem?_getD,List.getElem?_eq_getElem (by rw [HKL.out];exact hj)];exact List.getElem_mem _
    obtain⟨z,hz,e⟩:=List.mem_map.1 hmem
    rw [←e]
    unfold Tm.due at hz
    exact HXS.out.al z (List.mem_filter.1 hz).1
   clear HO3 HGO3 HAT HX3 HXS HR2 HM2 hmx
   generalize (Tm.due k2.al).map Prod.fst=ks at *
   obtain⟨k3,hk3⟩:∃ k3,{ k2 with al:=Tm.tickL k2.al }=k3:=⟨_,rfl⟩
   have HKO:Hid (k3.os=k2.os):=show _=_ by rw [←hk3]
   rw [hk3] at HA3 HF3 HE
   clear hk3
   go_loopg [40] m2 (fun n s0 wx=>∃ j:Nat,j+n=m2/\s0=.int .i64 j/\Hid (St own3 w3 G wx ((ks.take j).foldl ring1 k3)))
   case atStart=>exact⟨0,by omega,rfl,HA3⟩
   case round =>
    obtain⟨j,hjg,rfl,HR⟩:=hrel
    cases gk with
    | zero =>
     obtain rfl:j=m2:=by omega
     have hlt2:¬ ((j:Int) < j):=by omega
     have hR:=HR.out
     rw [List.take_of_length_le (Nat.le_of_eq HKL.out)] at hR
     have HR2:Hid (St own3 w3 G wr (ks.foldl ring1 k3)):=hR
     clear hR HR
     go_wp2
     go_ret
     rw [HE.out]
     exact⟨rfl,HR2.out.from HXX.out⟩
    | succ g2 =>
     have hjl:j < m2:=by omega
     have hjlt:(j:Int) < m2:=by omega
     have hwk:IntKind.i64.wrap ((j:Int)+1)=(j:Int)+1:=by rw [IntKind.wrap_i64];omega
     obtain⟨gb,rfl,hgb,hcells⟩:=HSP3.out (by omega)
     have cg:=HR.out.cell hgb (hcells j hjl)
     obtain⟨hk0,x0,hx0⟩:=HKX.out j hjl
     have hx3:k3.os (ks.getD j 0).toNat=some x0:=by rw [HKO.out];exact hx0
     obtain⟨x,hx⟩:=rings_some HF3.out (ks.take j) hx3
     have hFx:=Fin.rings (ks.take j) k3 HF3.out
     have hsn:(ks.take (j+1)).foldl ring1 k3=ring1 ((ks.take j).foldl ring1 k3) (ks.getD j 0):=by
      rw [take_snoc _ (by rw [HKL.out];exact hjl) 0,List.foldl_append];rfl
     rw [ring1_signal hFx hx] at hsn
     have HSN:=(show Hid _ from hsn)
     obtain⟨p,hp⟩:=Int.eq_ofNat_of_zero_le hk0
     rw [hp] at cg hx
     simp only [Int.toNat_natCast] at hx
     have hp32:=HR.out.oi hx
     have hpI:(p:Int) < 32:=by omega
     have c5:=HR.out.c5
     have ca:=HR.out.oap hx (hG p)
     have e2:=HR.out.e2 hx
     have e3:=HR.out.e3 hx
     have e4:=HR.out.e4 hx
     have hw:=(HR.out.xs.wd p x hx)
     obtain⟨xa,hxa⟩:=Int.eq_ofNat_of_zero_le hw.1.1
     obtain⟨xb,hxb⟩:=Int.eq_ofNat_of_zero_le hw.2.1
     rw [hxa] at e3
     rw [hxb] at e4
     rw [hxa,hxb] at HSN
     simp only [Int.toNat_natCast] at HSN
     have HSIG:Hid (∀ wx,St own3 w3 G wx ((ks.take j).foldl ring1 k3)->Calls Tryz.prog 19 #[.pointer (some ⟨G.kp,0,none⟩),.agg #[.int .u32 (xa:Nat),.int .u32 (xb:Nat)]] wx fun e w'=>e=.returned (.int .i64 (signalK ((ks.take j).foldl ring1 k3) xa xb).1)/\St own3 w3 G w' (signalK ((ks.take j).foldl ring1 k3) xa xb).2):=fun wx hs=>signal_any hs hG hFx xa xb (by omega) (by omega)
     have hel:=at_lt (HR.out.x hx)
     clear hcells hk0 hx0 hx3 hFx hsn hw hxa hxb hp
     generalize (ks.take j).foldl ring1 k3=kx at *
     go_wp2_with (first
      |(go_at_call 19;refine(HSIG.out _ (HR.out.below (alloc_below _ _))).mono ?_;rintro e w4 ⟨rfl,h4⟩;have H4:Hid (St own3 w3 G w4 (signalK kx xa xb).2):=h4;clear h4))
     go_roundg g2
     case measure=>omega
     case rel=>exact⟨j+1,by omega,rfl,(by rw [HSN.out];exact H4.out)⟩
  | succ g' =>
   have hil:i < m:=by omega
   have hilt:(i:Int) < m:=by omega
   have hwk:IntKind.i64.wrap ((i:Int)+1)=(i:Int)+1:=by rw [IntKind.wrap_i64];omega
   obtain⟨gb,rfl,hgb,hcells⟩:=HSP.out (by omega)
   have cg:=HR.out.cell hgb (hcells i hil)
   obtain⟨t0,ht0⟩:=HDU.out i hil
   obtain⟨t,ht⟩:=overs_some ((dueT k1).take i) ht0
   have hov:=HOV.out.steps ((dueT k1).take i)
   have hsn:((dueT k1).take (i+1)).foldl over1 (downs k1)=over1 (((dueT k1).take i).foldl over1 (downs k1)) ((dueT k1).getD i 0):=by
    rw [take_snoc _ (by rw [HM.out];exact hil) 0,List.foldl_append];rfl
   have HSN:=(show Hid _ from hsn)
   generalize ((dueT k1).take i).foldl over1 (downs k1)=kx at *
   have hp16:=HR.out.ti ht
   have hpI:(((dueT k1).getD i 0:Nat):Int) < 16:=by omega
   have c3:=HR.out.c3
   have ca:=HR.out.tap ht
   have HIO:=isOver_any HR.out hov.core hov.self ht
   clear hcells ht0 ht hov hsn
   generalize (dueT k1).getD i 0=p at *
   go_wp2_with (first
    |(go_at_call 46;refine HIO.mono ?_;rintro e w4 ⟨rfl,h4⟩;have H4:Hid (St own w2 G w4 (over1 kx p)):=h4;clear h4))
   go_roundg g'
   case measure=>omega
   case rel=>exact⟨i+1,by omega,rfl,(by rw [HSN.out];exact H4.out)⟩
end
end Go.Proofs.YtbbdndfibjdcfaaGreat
namespace Go.Proofs.YtbbdndfibjdcfaaGreat
open Go Go.RowKit
def PutT(o0:Nat->Nat)(w0:World)(G:Geo)(w:World)(k:Kn)(i b:Nat):Prop:=∃ own,KX 4 own G w k/\own G.ta=4/\w.heap[G.ta]?=some (.cells ((taC G k.ts).setIfInBounds i (.pointer (some ⟨b,0,none⟩))) 109 (0,0))/\Ext o0 own w0 w
def Geo.setT(G:Geo)(i b:Nat):Geo:={ G with tp:=fun j=>if j=i then b else G.tp j }
theorem Ends.more{ts:Nat->Option Ta}{wc:Int}{ys:List (Int×Int)}(h:Ends ts wc ys){i:Nat}(hn:ts i=none){t:Ta}(hl:t.left<=0):Ends (set1 ts i (some t)) wc ys:=by
 have f:∀ j u,set1 ts i (some t) j=some u->0 < u.left->ts j=some u:=fun j u hu h0=>by
  by_cases e:j=i
  ·subst e
   rw [set1_at] at hu
   obtain rfl:=Option.some.inj hu
   omega
  ·rw [set1_ne _ _ e] at hu;exact hu
 have g:∀ j u,ts j=some u->set1 ts i (some t) j=some u:=fun j u hu=>by
  rw [set1_ne _ _ (by rintro rfl;rw [hn] at hu;cases hu)];exact hu
 refine⟨fun y=>?_,?_,fun j u hu h0=>h.top j u (f j u hu h0) h0⟩
 ·rw [h.mem y]
  constructor
  ·rintro ⟨j,u,e,hu,h0⟩;exact⟨j,u,e,g j u hu,h0⟩
  ·rintro ⟨j,u,e,hu,h0⟩;exact⟨j,u,e,f j u hu h0,h0⟩
 ·refine(List.Pairwise.and_mem.1 h.ord).imp fun {a b} ⟨ha,hb,hab⟩ s u hs hu=>?_
  obtain⟨j,s',e1,hs',h1⟩:=(h.mem a).1 ha
  obtain⟨l,u',e2,hu',h2⟩:=(h.mem b).1 hb
  subst e1 e2
  simp only [Int.toNat_natCast] at hs hu
  rw [g j s' hs'] at hs
  rw [g l u' hu'] at hu
  obtain rfl:=Option.some.inj hs
  obtain rfl:=Option.some.inj hu
  exact hab _ _ (by simpa using hs') (by simpa using hu')
theorem taC_put(G:Geo)(ts:Nat->Option Ta){i:Nat}(hi:i < 16)(b:Nat)(t:Ta):taC (G.setT i b) (set1 ts i (some t))=(taC G ts).setIfInBounds i (.pointer (some ⟨b,0,none⟩)):=by
 unfold taC
 apply Array.ext'
 simp only [List.setIfInBounds_toArray]
 apply List.ext_getElem?
 intro j
 by_cases e:j=i
 ·subst e
  rw [List.getElem?_set_self (by simpa using hi),List.getElem?_map,List.getElem?_range hi]
  simp [tPt,set1_at,Geo.setT]
 ·rw [List.getElem?_set_ne (fun c=>e c.symm),List.getElem?_map,List.getElem?_map]
  rcases Nat.lt_or_ge j 16 with c | c
  ·rw [List.getElem?_range c]
   simp only [Option.map_some]
   congr 1
   unfold tPt
   rw [set1_ne _ _ e]
   simp [Geo.setT,e]
  ·rw [List.getElem?_eq_none (by simpa using c)];rfl
theorem qu_mono{own own2:Nat->Nat}{t:Nat}{w:World}{p:Nat}{xs:List (Int×Int)}(h:Wt.Qu (fun b=>own b=t) w p xs)(hm:∀ y,own y=t->own2 y=t):Wt.Qu (fun b=>own2 b=t) w p xs:=by
 obtain⟨bs,h⟩:=h
 exact⟨bs,h.head,h.ch,hm _ h.lo,fun b hb=>hm _ (h.los b hb),h.len⟩
section
variable {o0 own0:Nat->Nat} {w0 wa w w':World} {G:Geo} {k:Kn}
def PutZ(o0:Nat->Nat)(w0:World)(G:Geo)(w:World)(k:Kn)(i b:Nat):Prop:=∃ own,KX 4 own G w k/\own G.ta=4/\w.heap[G.ta]?=some (.cells ((taC G k.ts).setIfInBounds i (.pointer (some ⟨b,0,none⟩))) 109 (0,0))/\Ext o0 own w0 w/\own b=0
theorem PutZ.done{i b:Nat}(h:PutZ o0 w0 G w k i b)(hbw:w0.heap.size<=b)(hi:i < 16)(hn:k.ts i=none){t:Ta}(hl:t.left<=0)(hav:t.av < 4294967296)(hc:w.heap[b]?=some (.cells (tC G i t) 79 (0,0))):St o0 w0 (G.setT i b) w { k with ts:=set1 k.ts i (some t) }:=by
 obtain⟨own,h,h1,h2,hX2,hob⟩:=h
 obtain⟨own2,ho2⟩:∃ own2:Nat->Nat,own2=fun x=>if x=b then 10+i else own x:=⟨_,rfl⟩
 have hself:own2 b=10+i:=by rw [ho2];simp
 have hne:∀ x s,own x=s->s≠0->own2 x=s:=fun x s e h0=>by rw [ho2];simp only;rw [if_neg (by rintro rfl;omega)];exact e
 have hz:∀ x,own2 x=own x∨(x=b/\own2 x=10+i):=fun x=>by
  rw [ho2];simp only
  by_cases e:x=b
  ·rw [if_pos e];exact Or.inr ⟨e,rfl⟩
  ·rw [if_neg e];exact Or.inl rfl
 refine⟨own2,⟨fun _=>?_,fun _=>?_,fun _=>?_,fun _=>?_,fun _=>?_,fun _=>?_,fun _=>?_,fun _=>?_,fun x h3 h4=>?_,h.slo,fun j u hu=>?_,h.xs,fun j u hu=>?_,h.oi,fun j u hu _=>?_,fun o x hx _=>?_,fun o x hx _=>?_,fun o x hx _=>?_⟩,hX2.os,hX2.tape,hX2.output,hX2.size,fun x hx h0=>?_,fun x hx h0=>hX2.out x hx h0⟩
 ·have:=h.kern (by decide);exact⟨hne _ _ this.1 (by decide),this.2⟩
 ·have:=h.tn (by decide);exact⟨hne _ _ this.1 (by decide),this.2⟩
 ·have:=h.on (by decide);exact⟨hne _ _ this.1 (by decide),this.2⟩
 ·refine⟨hne _ _ h1 (by decide),?_⟩
  show w.heap[G.ta]?=some (.cells (taC (G.setT i b) (set1 k.ts i (some t))) 109 (0,0))
  rw [taC_put G k.ts hi]
  exact h2
 ·have:=h.oa (by decide);exact⟨hne _ _ this.1 (by decide),this.2⟩
 ·have:=h.rd (by decide);exact⟨fun x h3 h4=>hne _ _ (this.1 x h3 h4) (by decide),this.2⟩
 ·obtain⟨a,v,ys,c,d,e⟩:=h.en (by decide)
  exact⟨hne _ _ a (by decide),v,ys,fun g hg=>hne _ _ (c g hg) (by decide),d,e.more hn hl⟩
 ·obtain⟨a,a2,a3,v,c,d⟩:=h.al (by decide)
  exact⟨hne _ _ a (by decide),hne _ _ a2 (by decide),hne _ _ a3 (by decide),v,fun g hg=>hne _ _ (c g hg) (by decide),d⟩
 ·rcases hz x with e |⟨e,_⟩
  ·rw [e];exact h.nc x h3 h4
  ·subst e;exact absurd (Cl.of hc) h4
 ·by_cases e:j=i
  ·subst e
   have:u=t:=by have:=hu;simp only [set1_at] at this;exact(Option.some.inj this).symm
   subst this
   exact hav
  ·exact h.av j u (by have:=hu;simp only [set1_ne _ _ e] at this;exact this)
 ·by_cases e:j=i
  ·omega
  ·exact h.ti j u (by have:=hu;simp only [set1_ne _ _ e] at this;exact this)
 ·by_cases e:j=i
  ·subst e
   have:u=t:=by have:=hu;simp only [set1_at] at this;exact(Option.some.inj this).symm
   subst this
   have ep:(G.setT j b).tp j=b:=by simp [Geo.setT]
   rw [ep]
   exact⟨hself,hc⟩
  ·have hu':k.ts j=some u:=by have:=hu;simp only [set1_ne _ _ e] at this;exact this
   have ep:(G.setT i b).tp j=G.tp j:=by simp [Geo.setT,e]
   rw [ep]
   have:=h.task j u hu' (by omega)
   exact⟨hne _ _ this.1 (by omega),this.2⟩
 ·have:=h.thg o x hx (by omega);exact⟨hne _ _ this.1 (by omega),this.2⟩
 ·obtain⟨a,c⟩:=h.obj o x hx (by omega)
  exact⟨⟨hne _ _ a.p (by omega),fun k6=>hne _ _ (a.f k6) (by omega),fun k6=>hne _ _ (a.g k6) (by omega),a.gf⟩,c⟩
 ·exact qu_mono (h.que o x hx (by omega)) fun y hy=>hne y _ hy (by omega)
 ·rcases hz x with e |⟨e,_⟩
  ·rw [e];exact hX2.zero x hx h0
  ·omega
theorem k_make(h:St o0 w0 G w k):Calls Tryz.prog 107 #[.pointer (some ⟨G.tn,0,none⟩)] w fun e w'=>e=.returned (.tuple #[.int .u32 (Hd.makeH 16 k.th:Nat),.int .i64 (Hd.makeE 16 k.th)])/\St o0 w0 G w' { k with th:=Hd.makeS 16 k.th }:=by
 obtain⟨own,h,x⟩:=h
 obtain⟨h1,h2⟩:=h.tn (by decide)
 refine(Hd.make_any h2).mono fun e w' ⟨he,hT,hb⟩=>⟨he,?_⟩
 have hoff:Off own 2 w w':=off_hd hb (by simpa using h1)
 exact⟨_,(h.off hoff).shutTn ((ext_cl (tab_cl hT) h2.lt).trans h1) hT,x.trans (hoff.ext (by decide))⟩
theorem set_row{own:Nat->Nat}(h:KM own G w k){i:Nat}(b:Nat):PutT own w G (w.setCell ⟨G.ta,i,none⟩ (.pointer (some ⟨b,0,none⟩))) k i b:=by
 obtain⟨h1,h2⟩:=h.ta (by decide)
 have hoff:Off own 4 w (w.setCell ⟨G.ta,i,none⟩ (.pointer (some ⟨b,0,none⟩))):=off_cell w i _ h1
 have hc:=set_block h2 i (.pointer (some ⟨b,0,none⟩))
 exact⟨_,h.off hoff,(ext_cl (Cl.of hc) (at_lt h2)).trans h1,hc,hoff.ext (by decide)⟩
theorem St.put(h:St o0 w0 G w k){i:Nat}(b:Nat):PutT o0 w0 G (w.setCell ⟨G.ta,i,none⟩ (.pointer (some ⟨b,0,none⟩))) k i b:=by
 obtain⟨own,h,x⟩:=h
 obtain⟨o2,a,b2,c,d⟩:=set_row h (i:=i) b
 exact⟨o2,a,b2,c,x.trans d⟩
theorem tput_no(h:St o0 w0 G w k)(hg:Hd.Good 16 k.th)(he:Hd.makeE 16 k.th≠0)(b:Nat):Calls Tryz.prog 67 #[.pointer (some ⟨G.kp,2,none⟩),.pointer (some ⟨b,0,none⟩)] w fun e w'=>e=.returned (.tuple #[.int .u32 0,.int .i64 0,.int .i64 (Hd.makeE 16 k.th)])/\St o0 w0 G w' k:=by
 have HM:=k_make h
 have e1:Hd.makeS 16 k.th=k.th:=by
  unfold Hd.makeS;unfold Hd.makeE at he
  split at he
  ·exact absurd rfl he
  ·rename_i c;rw [if_neg c]
 have he':(Hd.makeE 16 k.th == 0)=false:=by simpa using he
 have he2:(Hd.makeE 16 k.th != 0)=true:=by simpa using he
 rw [e1] at HM
 have c2:=h.c2
 clear h he hg e1
 generalize Hd.makeE 16 k.th=er at *
 generalize Hd.makeH 16 k.th=hh at *
 go_enter Tryz.func67,Tryz.ntmps67
 go_wp2_with (first |(go_at_call 107;refine HM.mono ?_;rintro e w1 ⟨rfl,h1⟩;have S1:Hid (St o0 w0 G w1 k):=h1;clear h1))
 refine bodyPost_ret (results_tmp3 rfl _ _ _) rfl ?_
 exact⟨rfl,S1.out⟩
theorem tput_yes(h:St o0 w0 G w k)(hg:Hd.Good 16 k.th)(he:Hd.makeE 16 k.th=0)(b:Nat):Calls Tryz.prog 67 #[.pointer (some ⟨G.kp,2,none⟩),.pointer (some ⟨b,0,none⟩)] w fun e w'=>e=.returned (.tuple #[.int .u32 (Hd.makeH 16 k.th:Nat),.int .i64 (Hd.fr 16 k.th:Nat),.int .i64 0])/\PutT o0 w0 G w' { k with th:=Hd.makeS 16 k.th } (Hd.fr 16 k.th) b:=by
 have HM:=k_make h
 have hlt:Hd.fr 16 k.th < 16:=by
  unfold Hd.makeE at he
  split at he
  ·assumption
  ·cases he
 have hP:Hd.placeE (Hd.makeS 16 k.th) (Hd.makeH 16 k.th)=0:=Hd.make_is (by omega) hlt
 have hmh:Hd.makeH 16 k.th=((k.th (Hd.fr 16 k.th)).1+1) * 256+Hd.fr 16 k.th:=by unfold Hd.makeH;rw [if_pos hlt]
 have hpp:Hd.placeP (Hd.makeS 16 k.th) (Hd.makeH 16 k.th)=Hd.fr 16 k.th:=by unfold Hd.placeP;rw [if_pos hP,hmh];omega
 have hz:Hd.makeH 16 k.th<=4294967295:=by
  obtain⟨h1,h2⟩:=Hd.isFr_not (Hd.fr_yes hlt)
  omega
 have HPL:Hid (∀ wx,St o0 w0 G wx { k with th:=Hd.makeS 16 k.th }->Calls Tryz.prog 91 #[.pointer (some ⟨G.tn,0,none⟩),.int .u32 (Hd.makeH 16 k.th:Nat)] wx fun e w'=>e=.returned (.tuple #[.int .i64 (Hd.fr 16 k.th:Nat),.int .i64 0])/\St o0 w0 G w' { k with th:=Hd.makeS 16 k.th }/\Below wx.heap.size wx w'):=fun wx hx=>by
  have:=k_place hx (Hd.makeH 16 k.th) hz
  rw [show({ k with th:=Hd.makeS 16 k.th }:Kn).th=Hd.makeS 16 k.th from rfl,hpp,hP] at this
  exact this
 have HLT:Hid (Hd.fr 16 k.th < 16):=hlt
 have hltI:((Hd.fr 16 k.th:Nat):Int) < 16:=by omega
 rw [he] at HM
 have c2:=h.c2
 clear h he hg hlt hP hmh hpp hz
 generalize Hd.makeS 16 k.th=S at *
 generalize Hd.makeH 16 k.th=hh at *
 generalize Hd.fr 16 k.th=i at *
 go_enter Tryz.func67,Tryz.ntmps67
 go_wp2_with (first
  |(go_at_call 107;refine HM.mono ?_;rintro e w1 ⟨rfl,h1⟩;have S1:Hid (St o0 w0 G w1 { k with th:=S }):=h1;have v2:=h1.c2;clear h1)
  |(go_at_call 91;(refine(HPL.out _ S1.out).mono ?_;rintro e w2 ⟨rfl,h2,b2⟩;have S2:Hid (St o0 w0 G w2 { k with th:=S }):=h2;have v3:=h2.c3;have vt:=h2.tat HLT.out;have vf:w2.frozen? ⟨G.ta,i,none⟩=false:=(by simp [World.frozen?,h2.ta]);clear h2 b2)))
 refine bodyPost_ret (results_tmp3 rfl _ _ _) rfl ?_
 exact⟨rfl,S2.out.put b⟩
end
end Go.Proofs.YtbbdndfibjdcfaaGreat
namespace Go.Proofs.YtbbdndfibjdcfaaGreat
open Go Go.RowKit
theorem KX.off0{q:Nat}{own:Nat->Nat}{G:Geo}{w w':World}{k:Kn}(h:KX q own G w k)(hb:Off own 0 w w'):KX q (ext own G w w' 0) G w' k:=by
 have hk:∀ (b s:Nat) (cs:Array Value) (ty:TypeId) (f:Nat×Nat),0≠s->own b=s->w.heap[b]?=some (.cells cs ty f)->ext own G w w' 0 b=s/\w'.heap[b]?=some (.cells cs ty f):=fun b s cs ty f hs ho hc =>
  have hl:=at_lt hc
  have e:=(hb.block b hl (fun e=>hs (e.symm.trans ho))).trans hc
  ⟨(ext_cl (Cl.of e) hl).trans ho,e⟩
 have hn:∀ (b s:Nat),0≠s->own b=s->Cl w b->ext own G w w' 0 b=s:=fun b s hs ho ⟨cs,ty,f,e⟩=>(hk b s cs ty f hs ho e).1
 have hs2:∀ b,b < w.heap.size->ext own G w w' 0 b=ext own G w w' 0 b:=fun _ _=>rfl
 refine⟨fun c=>?_,fun c=>?_,fun c=>?_,fun c=>?_,fun c=>?_,fun c=>?_,fun c=>?_,fun c=>?_,fun _=>ext_nc,h.slo,h.av,h.xs,h.ti,h.oi,fun i u hu c=>?_,fun o x hx c=>?_,fun o x hx c=>?_,fun o x hx c=>?_⟩
 ·obtain⟨a,b⟩:=h.kern c
  exact hk _ _ _ _ _ (by decide) a b
 ·obtain⟨a,b⟩:=h.tn c
  exact⟨hn _ _ (by decide) a (tab_cl b),b.buts hb.hd (tagged_no (by omega))⟩
 ·obtain⟨a,b⟩:=h.on c
  exact⟨hn _ _ (by decide) a (tab_cl b),b.buts hb.hd (tagged_no (by omega))⟩
 ·obtain⟨a,b⟩:=h.ta c
  exact hk _ _ _ _ _ (by decide) a b
 ·obtain⟨a,b⟩:=h.oa c
  exact hk _ _ _ _ _ (by decide) a b
 ·obtain⟨a,b⟩:=h.rd c
  have hl:=b.le
  exact⟨fun x h1 h2=>(ext_ex (Or.inr ⟨h1,h2⟩) (by omega)).trans (a x h1 h2),b.keep hb.size fun x h1 h2=>hb.block x (by omega) (fun e=>absurd (e.symm.trans (a x h1 h2)) (by decide))⟩
 ·obtain⟨a,v,ys,a2,b,e⟩:=h.en c
  exact⟨hn _ _ (by decide) a (Cl.of b.ch.head),v,ys,fun g hg=>hn _ _ (by decide) (a2 g hg) (own_cl b.ch.own hg),b.buts hb.tm (tagged_no (by omega)) (fun g hg=>tagged_no (by rw [a2 g hg];decide)),e⟩
 ·obtain⟨a,a2,a3,v,a4,b⟩:=h.al c
  exact⟨hn _ _ (by decide) a (Cl.of b.ax.blk),(ext_ex (Or.inl rfl) b.ax.em.lt).trans a2,hn _ _ (by decide) a3 (Cl.of b.ax.ls.ch.head),v,fun g hg=>hn _ _ (by decide) (a4 g hg) (own_cl b.ax.ls.ch.own hg),
   b.buts hb.tm (tagged_no (by omega)) (tagged_no (by omega)) (tagged_no (by omega)) (fun g hg=>tagged_no (by rw [a4 g hg];decide))⟩
 ·obtain⟨a,b⟩:=h.task i u hu c
  exact hk _ _ _ _ _ (by omega) a b
 ·obtain⟨a,b⟩:=h.thg o x hx c
  exact hk _ _ _ _ _ (by omega) a b
 ·obtain⟨a,b⟩:=h.obj o x hx c
  obtain⟨c1,c2⟩:=a.cl b
  exact⟨⟨hn _ _ (by omega) a.p c1,fun k6=>hn _ _ (by omega) (a.f k6) (c2 k6).1,fun k6=>hn _ _ (by omega) (a.g k6) (c2 k6).2,a.gf⟩,kt_buts b hb.ob (tagged_no (by have:=a.p;omega)) (fun k6=>tagged_no (by have:=a.f k6;omega)) (fun k6=>tagged_no (by have:=a.g k6;omega))⟩
 ·exact Qu.keep (h.que o x hx c) (fun b hl e=>hb.block b hl.lt (by omega)) (fun b hl hc=>ext_cl hc hl)
section
variable {o0 own0:Nat->Nat} {w0 wa w w':World} {G:Geo} {k:Kn}
theorem PutT.z{i b:Nat}(h:PutT own0 wa G w k i b)(hb0:own0 b=0)(hbl:b < wa.heap.size)(hX:Ext o0 own0 w0 wa)(hbw:w0.heap.size<=b)(hb:Hd.Buts [b] w w'):PutZ o0 w0 G w' k i b:=by
 obtain⟨own,h,h1,h2,hE⟩:=h
 have hob:=hE.zero b hbl hb0
 have hX2:=hX.trans hE
 have hoff:Off own 0 w w':=off_hd hb (by simpa using hob)
 have hne:G.ta≠b:=fun e=>by rw [e] at h1;omega
 have hta:=(hb.block G.ta (at_lt h2) (by simpa using hne)).trans h2
 have hbs:=hE.size
 have hsz:=hX2.size
 exact⟨_,h.off0 hoff,(ext_cl (Cl.of hta) (at_lt h2)).trans h1,hta,⟨hb.os.trans hX2.os,hb.tape.trans hX2.tape,hb.output.trans hX2.output,Nat.le_trans hsz hb.size,fun x hx h0=>ext_0 (by omega) (hX2.zero x hx h0),fun x hx h0=>(hb.block x (by omega) (by simp;omega)).trans (hX2.out x hx h0)⟩,ext_0 (by omega) hob⟩
theorem isRank_any(r:Int)(w:World):Calls Tryz.prog 66 #[.int .i64 r] w fun e w'=>e=.returned (.bool (decide (0<=r/\r<=31)))/\w=w':=by
 by_cases h0:0<=r
 ·by_cases h1:r<=31
  ·rw [decide_eq_true ⟨h0,h1⟩]
   go_enter Tryz.func66,Tryz.ntmps66
   go_wp2
   go_ret
   exact⟨rfl,rfl⟩
  ·rw [decide_eq_false (fun c=>h1 c.2)]
   go_enter Tryz.func66,Tryz.ntmps66
   go_wp2
   go_ret
   exact⟨by simp [h1],rfl⟩
 ·rw [decide_eq_false (fun c=>h0 c.1)]
  go_enter Tryz.func66,Tryz.ntmps66
  go_wp2
  go_ret
  exact⟨by simp,rfl⟩
def ta0(h:Nat)(r:Int):Ta:=⟨h,1,false,r,r,0,0,0,0,0,0,0,0,0,-1,0,0⟩
theorem tC_ta0(G:Geo)(i h:Nat)(r:Int):tC G i (ta0 h r)=#[.int .u32 (h:Nat),.int .u8 1,.bool false,.int .i64 r,.int .i64 r,.int .u8 0,.int .u32 0,.int .u32 0,.int .u32 0,.int .i64 0,.int .i64 0,.int .i64 0,.int .i64 0,.int .u32 0,.int .i64 (i:Nat),.int .i64 0,.pointer none]:=by
 simp [tC,ta0,onP,wr,wrap64]
theorem zero17{w:World}{b:Nat}(h:w.heap[b]?=some (.cells #[.int .u32 0,.int .u8 0,.bool false,.int .i64 0,.int .i64 0,.int .u8 0,.int .u32 0,.int .u32 0,.int .u32 0,.int .i64 0,.int .i64 0,.int .i64 0,.int .i64 0,.int .u32 0,.int .i64 0,.int .i64 0,.pointer none] 79 (0,0))):(w.cell? ⟨b,0,none⟩=some (.int .u32 0)/\w.cell? ⟨b,1,none⟩=some (.int .u8 0)/\w.cell? ⟨b,2,none⟩=some (.bool false)/\w.cell? ⟨b,3,none⟩=some (.int .i64 0)/\w.cell? ⟨b,4,none⟩=some (.int .i64 0)/\w.cell? ⟨b,5,none⟩=some (.int .u8 0)/\w.cell? ⟨b,6,none⟩=some (.int .u32 0)/\w.cell? ⟨b,7,none⟩=some (.int .u32 0)/\w.cell? ⟨b,8,none⟩=some (.int .u32 0)/\w.cell? ⟨b,9,none⟩=some (.int .i64 0)/\w.cell? ⟨b,10,none⟩=some (.int .i64 0)/\w.cell? ⟨b,11,none⟩=some (.int .i64 0)/\w.cell? ⟨b,12,none⟩=some (.int .i64 0)/\w.cell? ⟨b,13,none⟩=some (.int .u32 0)/\w.cell? ⟨b,14,none⟩=some (.int .i64 0))/\(w.frozen? ⟨b,0,none⟩=false/\w.frozen? ⟨b,1,none⟩=false/\w.frozen? ⟨b,2,none⟩=false/\w.frozen? ⟨b,3,none⟩=false/\w.frozen? ⟨b,4,none⟩=false/\w.frozen? ⟨b,5,none⟩=false/\w.frozen? ⟨b,6,none⟩=false/\w.frozen? ⟨b,7,none⟩=false/\w.frozen? ⟨b,8,none⟩=false/\w.frozen? ⟨b,9,none⟩=false/\w.frozen? ⟨b,10,none⟩=false/\w.frozen? ⟨b,11,none⟩=false/\w.frozen? ⟨b,12,none⟩=false/\w.frozen? ⟨b,13,none⟩=false/\w.frozen? ⟨b,14,none⟩=false):=by
 refine⟨⟨?_,?_,?_,?_,?_,?_,?_,?_,?_,?_,?_,?_,?_,?_,?_⟩,⟨?_,?_,?_,?_,?_,?_,?_,?_,?_,?_,?_,?_,?_,?_,?_⟩⟩
 iterate 15 (rw [cell_of h];rfl)
 all_goals simp [World.frozen?,h]
theorem task_any(h:St o0 w0 G w k)(hf:Fin k)(r:Int):Calls Tryz.prog 23 #[.pointer (some ⟨G.kp,0,none⟩),.int .i64 r] w fun e w'=>e=.returned (.tuple #[.int .u32 ((taskK k r).1:Nat),.int .i64 (taskK k r).2.1])/\∃ G',(G'.kp=G.kp/\G'.an=G.an)/\(Shown G->Shown G')/\St o0 w0 G' w' (taskK k r).2.2:=by
 have HTh:=there_any h h.slo.1.1
 have HR:=isRank_any r w
 by_cases hr:r < 0∨31 < r
 ·have e:taskK k r=(0,4,k):=by unfold taskK;rw [if_pos hr]
  rw [e]
  rw [decide_eq_false (by omega)] at HR
  have S0:Hid (St o0 w0 G w k):=h
  clear h hf e
  go_enter Tryz.func23,Tryz.ntmps23
  go_wp2_with (first
   |(go_at_call 41;refine HTh.mono ?_;rintro e w1 ⟨rfl,rfl⟩)
   |(go_at_call 66;refine HR.mono ?_;rintro e w1 ⟨rfl,rfl⟩))
  go_ret2
  exact⟨rfl,G,⟨rfl,rfl⟩,fun c=>c,S0.out⟩
 ·rw [decide_eq_true (by omega)] at HR
  by_cases he:Hd.makeE 16 k.th=0
  ·have hg:=hf.core.th
   obtain⟨a1,a2,a3,a4,a5⟩:=make_ok hg he
   have hn:k.ts (Hd.fr 16 k.th)=none:=by
    have:=hf.core.thT (Hd.fr 16 k.th)
    rw [a2] at this
    simpa using this.symm
   obtain⟨i,hi⟩:∃ i,i=Hd.fr 16 k.th:=⟨_,rfl⟩
   obtain⟨hh,hhe⟩:∃ z,z=Hd.makeH 16 k.th:=⟨_,rfl⟩
   obtain⟨k0,hk0⟩:∃ k0:Kn,k0={ k with th:=Hd.makeS 16 k.th,ts:=set1 k.ts i (some (ta0 hh r)) }:=⟨_,rfl⟩
   have e:taskK k r=(hh,0,anew (join k0 i)):=by unfold taskK;rw [if_neg hr,if_neg (by simpa using he),hk0,hhe,hi];rfl
   rw [e]
   have hC:Core (join k0 i) 0 NoD:=by
    rw [hk0,hhe,hi]
    unfold YtbbdndfibjdcfaaGreat.join
    simp only [set1_at,set1_set1]
    exact hf.core.born a1 hn (y:=((k.th (Hd.fr 16 k.th)).1+1,true)) a3 rfl a5 rfl rfl rfl rfl a4 ⟨rfl,rfl⟩ ⟨Or.inl rfl,by simp only [ta0];omega,by simp only [ta0];omega,by simp [ta0],by simp [ta0],fun c=>(by cases c),fun c=>(by cases c),fun _=>⟨rfl,rfl,rfl,rfl,rfl,rfl,rfl⟩⟩
   have hS:SelfK (join k0 i):=by
    refine hf.self.mono (Mono.trans ?_ (mono_join _ _))
    have hts:∀ j u,k0.ts j=some u->u.st=1∨k.ts j=some u:=fun j u hu=>by
     rw [hk0] at hu
     by_cases c:j=i
     ·subst c
      rw [show(({ k with th:=Hd.makeS 16 k.th,ts:=set1 k.ts j (some (ta0 hh r)) }:Kn)).ts j=some (ta0 hh r) from set1_at _ _ _] at hu
      obtain rfl:=Option.some.inj hu
      exact Or.inl rfl
     ·rw [show(({ k with th:=Hd.makeS 16 k.th,ts:=set1 k.ts i (some (ta0 hh r)) }:Kn)).ts j=k.ts j from set1_ne _ _ c] at hu
      exact Or.inr hu
    refine⟨⟨fun j u hu hs=>?_,fun j u hu hs=>?_⟩,fun o y hy=>⟨y,by rw [hk0] at hy;exact hy,rfl⟩⟩
    ·rcases hts j u hu with c | c
     ·rw [c] at hs;cases hs
     ·exact⟨u,c,hs,rfl,rfl,rfl,rfl,rfl⟩
    ·rcases hts j u hu with c | c
     ·rw [c] at hs;cases hs
     ·exact⟨u,c,hs,rfl,rfl⟩
   have hkt:k0.ts i=some (ta0 hh r):=by rw [hk0];exact set1_at _ _ _
   have hJ:joinC k0 i=join k0 i:=by rw [joinC_eq hkt];rfl
   obtain⟨wa,hwa⟩:∃ wa,wa=w.alloc (.cells #[.int .u32 0,.int .u8 0,.bool false,.int .i64 0,.int .i64 0,.int .u8 0,.int .u32 0,.int .u32 0,.int .u32 0,.int .i64 0,.int .i64 0,.int .i64 0,.int .i64 0,.int .u32 0,.int .i64 0,.int .i64 0,.pointer none] 79):=⟨_,rfl⟩
   have hB:Below w.heap.size w wa:=by rw [hwa];exact alloc_below _ _
   have hal:wa.heap[w.heap.size]?=some (.cells #[.int .u32 0,.int .u8 0,.bool false,.int .i64 0,.int .i64 0,.int .u8 0,.int .u32 0,.int .u32 0,.int .u32 0,.int .i64 0,.int .i64 0,.int .i64 0,.int .i64 0,.int .u32 0,.int .i64 0,.int .i64 0,.pointer none] 79 (0,0)):=by rw [hwa];exact alloc_at _ _
   have hsw:=h.size
   obtain⟨own,hA,hX,hF⟩:=h.fresh hB
   have hpb:=hF _ (Nat.le_refl w.heap.size)
   have hbl:w.heap.size < wa.heap.size:=at_lt hal
   have HP:=tput_yes hA hg he w.heap.size
   have HL:Hid (∀ wx wy,PutT own wa G wx { k with th:=Hd.makeS 16 k.th } i w.heap.size->wy=sets wx w.heap.size [(14,.int .i64 (i:Nat)),(0,.int .u32 (hh:Nat)),(1,.int .u8 1),(2,.bool false),(3,.int .i64 r),(4,.int .i64 r),(5,.int .u8 0),(6,.int .u32 0),(7,.int .u32 0),(8,.int .u32 0),(9,.int .i64 0),(10,.int .i64 0),(11,.int .i64 0),(12,.int .i64 0),(13,.int .u32 0)]->St o0 w0 (G.setT i w.heap.size) wy k0):=fun wx wy hx hy=>by
    obtain⟨o1,q1,q2,q3,q4⟩:=hx
    have hc:=(q4.out _ hbl hpb).trans hal
    have hz:=PutT.z ⟨o1,q1,q2,q3,q4⟩ hpb hbl hX hsw (w':=wy) (by rw [hy];exact sets_buts _ _ _)
    have:=hz.done hsw (by rw [hi];exact a1) (show k.ts i=none by rw [hi];exact hn) (t:=ta0 hh r) (by simp [ta0]) (by simp [ta0]) (by rw [hy,sets_at _ hc,tC_ta0];simp)
    rw [hk0]
    exact this
   have HJ:Hid (∀ wy,St o0 w0 (G.setT i w.heap.size) wy k0->Calls Tryz.prog 68 #[.pointer (some ⟨G.kp,0,none⟩),.pointer (some ⟨w.heap.size,0,none⟩)] wy fun e w'=>e=.returned (.tuple #[])/\St o0 w0 (G.setT i w.heap.size) w' (join k0 i)):=fun wy hy=>by
    have:=join_any hy hkt
    rw [hJ,show(G.setT i w.heap.size).tp i=w.heap.size by simp [Geo.setT],show(G.setT i w.heap.size).kp=G.kp from rfl] at this
    exact this
   have HTell:Hid (∀ wx,St o0 w0 (G.setT i w.heap.size) wx (join k0 i)->CallsD Tryz.prog 52 #[.pointer (some ⟨G.kp,0,none⟩)] .returning wx fun e u' w'=>u'=.returning/\(e=.returned (.tuple #[])/\St o0 w0 (G.setT i w.heap.size) w' (anew (join k0 i)))):=fun wx hx=>tell_any hx hC hx.kd hS _
   have HOut:Hid (∀ wx,PutT own wa G wx { k with th:=Hd.makeS 16 k.th } i w.heap.size->wx.heap[w.heap.size]?=some (.cells #[.int .u32 0,.int .u8 0,.bool false,.int .i64 0,.int .i64 0,.int .u8 0,.int .u32 0,.int .u32 0,.int .u32 0,.int .i64 0,.int .i64 0,.int .i64 0,.int .i64 0,.int .u32 0,.int .i64 0,.int .i64 0,.pointer none] 79 (0,0))):=fun wx ⟨o1,q1,q2,q3,q4⟩=>(q4.out _ hbl hpb).trans hal
   rw [←hi,←hhe] at HP
   have HWA:=(show Hid _ from hwa)
   have HJ0:=HJ
   clear h hf hg he a1 a2 a3 a4 a5 hn hhe e hC hS hkt hJ hB hal hsw hA hX hF hpb hbl hk0 hi hwa
   generalize join k0 i=kj at *
   generalize ({ k with th:=Hd.makeS 16 k.th }:Kn)=k1 at *
   go_enter_defers Tryz.func23,Tryz.ntmps23
   go_wp2_with (first
    |(go_at_call 41;refine HTh.mono ?_;rintro e w1 ⟨rfl,rfl⟩)
    |(go_at_call 66;refine HR.mono ?_;rintro e w1 ⟨rfl,rfl⟩)
    |(go_at_call 67;rw [←HWA.out];refine HP.mono ?_;rintro e w2 ⟨rfl,h1⟩;have P1:Hid (PutT own wa G w2 k1 i w.heap.size):=h1;obtain⟨⟨v0,v1,v2,v3,v4,v5,v6,v7,v8,v9,v10,v11,v12,v13,v14⟩,⟨u0,u1,u2,u3,u4,u5,u6,u7,u8,u9,u10,u11,u12,u13,u14⟩⟩:=zero17 (HOut.out _ h1);clear h1)
    |(go_at_call 68;refine(HJ.out _ (HL.out _ _ P1.out rfl)).mono ?_;rintro e w3 ⟨rfl,h3⟩;have S3:Hid (St o0 w0 (G.setT i w.heap.size) w3 kj):=h3;clear h3))
   refine leaves_cons (f:=52) (args:=#[.pointer (some ⟨G.kp,0,none⟩)]) (by simp) (by simp [go_sem]) ?_
   refine(HTell.out _ S3.out).mono ?_
   rintro e u' w'' ⟨rfl,rfl,h9⟩
   exact⟨_,results_tmp2 rfl _ _ _,rfl,G.setT i w.heap.size,⟨rfl,rfl⟩,fun c=>c,h9⟩
  ·have e:taskK k r=(0,Hd.makeE 16 k.th,k):=by unfold taskK;rw [if_neg hr,if_pos he]
   rw [e]
   have S0:Hid (St o0 w0 G w k):=h
   have hg:=hf.core.th
   have HP:Hid (∀ wx,St o0 w0 G wx k->∀ b,Calls Tryz.prog 67 #[.pointer (some ⟨G.kp,2,none⟩),.pointer (some ⟨b,0,none⟩)] wx fun e w'=>e=.returned (.tuple #[.int .u32 0,.int .i64 0,.int .i64 (Hd.makeE 16 k.th)])/\St o0 w0 G w' k):=fun wx hx b=>tput_no hx hg he b
   have he':(Hd.makeE 16 k.th == 0)=false:=by simpa using he
   have he2:(Hd.makeE 16 k.th != 0)=true:=by simpa using he
   clear h hf e hg he
   generalize Hd.makeE 16 k.th=er at *
   go_enter Tryz.func23,Tryz.ntmps23
   go_wp2_with (first
    |(go_at_call 41;refine HTh.mono ?_;rintro e w1 ⟨rfl,rfl⟩)
    |(go_at_call 66;refine HR.mono ?_;rintro e w1 ⟨rfl,rfl⟩)
    |(go_at_call 67;refine(HP.out _ (S0.out.below (alloc_below _ _)) _).mono ?_;rintro e w1 ⟨rfl,h1⟩;have S1:Hid (St o0 w0 G w1 k):=h1;clear h1))
   go_ret2
   exact⟨rfl,G,⟨rfl,rfl⟩,fun c=>c,S1.out⟩
end
end Go.Proofs.YtbbdndfibjdcfaaGreat
namespace Go.Proofs.YtbbdndfibjdcfaaGreat
open Go Go.RowKit Go.Shelf
attribute [local go_sem] Oper.semAt_some
theorem letGo_some{k:Kn}{g:Int}{D:Nat->Prop}(h:Core k g D){z:Nat}(hz:z≠0)(o j:Nat):((letGo z k o).os j).isSome=(k.os j).isSome:=by
 rw [←(h.letGo hz o).ohO j,←h.ohO j,(rest_letGo z k o).oh]
theorem lets_some{g:Int}{D:Nat->Prop}{z:Nat}(hz:z≠0)(j:Nat):∀ (l:List Nat) (k:Kn),Core k g D->((l.foldl (letGo z) k).os j).isSome=(k.os j).isSome
 | [],_,_=>rfl
 | o :: r,k,h=>(lets_some hz j r _ (h.letGo hz o)).trans (letGo_some h hz o j)
theorem lets_core{g:Int}{D:Nat->Prop}{z:Nat}(hz:z≠0):∀ (l:List Nat) (k:Kn),Core k g D->Core (l.foldl (letGo z) k) g D
 | [],_,h=>h
 | o :: r,k,h=>lets_core hz r _ (h.letGo hz o)
theorem lets_filter{g:Int}{D:Nat->Prop}{z:Nat}(hz:z≠0):∀ (l:List Nat) (k:Kn),Core k g D->∀ (b:Nat->Bool),(∀ o,b o=(k.os o).isSome)->(l.filter b).foldl (letGo z) k=l.foldl (letGo z) k
 | [],_,_,_,_=>rfl
 | o :: r,k,h,b,hb=>by
  rw [List.filter_cons]
  by_cases c:b o=true
  ·rw [if_pos c]
   exact lets_filter hz r _ (h.letGo hz o) b fun p=>by rw [hb p,letGo_some h hz o p]
  ·rw [if_neg c]
   have hn:k.os o=none:=by
    have:=hb o
    cases hx:k.os o with
    | none=>rfl
    | some x=>rw [hx] at this;exact absurd this c
   have e:letGo z k o=k:=by unfold letGo;rw [hn]
   rw [List.foldl_cons,e]
   exact lets_filter hz r k h b hb
theorem clr_same(who:Int):∀ zs:List Int,Ob.Pl.cnt who zs=0->Ob.Pl.clr who zs=zs:=by
 intro zs h
 unfold Ob.Pl.cnt at h
 unfold Ob.Pl.clr
 rw [List.countP_eq_zero] at h
 conv=>rhs;rw [←List.map_id zs]
 exact List.map_congr_left fun z hz=>by
  have:=h z hz
  have h2:¬ z=who:=by simpa using this
  rw [if_neg h2];rfl
theorem leave_same(T:Ob.Sx)(who:Int)(h:Ob.lB T who=false):Ob.lT T who=T:=by
 unfold Ob.lB at h
 unfold Ob.lT
 split
 ·rfl
 ·rename_i h0
  have h2:¬ (who≠0/\(T.o=who∨0 < Ob.Pl.cnt who T.zs)):=by simpa using h
  have h3:¬ T.o=who:=fun c=>h2 ⟨h0,Or.inl c⟩
  have h4:Ob.Pl.cnt who T.zs=0:=by
   rcases Nat.eq_zero_or_pos (Ob.Pl.cnt who T.zs) with c | c
   ·exact c
   ·exact absurd ⟨h0,Or.inr c⟩ h2
  rw [if_neg h3,clr_same _ _ h4]
theorem leave_core{k:Kn}{g:Int}{D:Nat->Prop}(h:Core k g D){z:Nat}(hz:z≠0){o:Nat}{x:Th}(hx:k.os o=some x):Core (k.setO o { x with x:=Ob.lT x.x z }) g D:=by
 refine h.thing hx (leave_kind _ _).1 fun y hy h0=>?_
 have hz':(z:Int)≠0:=by omega
 rcases hy with rfl | hy
 ·rcases(leave_own x.x z hz').2 with e | e
  ·exact h.own o x hx _ (Or.inl e) h0
  ·exact absurd e h0
 ·rcases(leave_zs x.x z hz' y hy).2 with e | e
  ·exact h.own o x hx _ (Or.inr e) h0
  ·exact absurd e h0
section
variable {o0:Nat->Nat} {w0 w w':World} {G:Geo} {k:Kn}
theorem ka_St{own1 own2:Nat->Nat}{W1 W2 W W':World}{k k':Kn}(h:St own1 W1 G W k)(h':St own2 W2 G W' k')(hs:W.heap.size<=W'.heap.size)(he:∀ j,(k'.os j).isSome=(k.os j).isSome):KA G.oa W W':=by
 refine⟨hs,fun cs ty f hc=>?_⟩
 have e:oaC G k'.os=oaC G k.os:=by
  unfold oaC
  congr 2
  funext o
  unfold oPt
  rw [he]
 rw [h.oa] at hc
 rw [h'.oa,e]
 exact hc
theorem letGo_any(h:St o0 w0 G w k)(hG:Shown G){z:Nat}(hz:z≠0)(hz2:z<=4294967295){D:Nat->Prop}(hc:Core k (z:Int) D):Calls Tryz.prog 63 #[.pointer (some ⟨G.kp,0,none⟩),.int .u32 (z:Nat)] w fun e w'=>e=.returned (.tuple #[])/\St o0 w0 G w' (lets k z):=by
 have HS:Hid (St o0 w0 G w k):=h
 have HC:Hid (Core k (z:Int) D):=hc
 refine(callsIn_wide (n:=3)).1 ?_
 refine callsIn_of_wp_marks Tryz.func63 rfl trivial ?_ rfl
 simp only [Tryz.ntmps63,List.size_toArray,List.length_cons,List.length_nil,Nat.reduceAdd,Nat.reduceSub,Array.replicate_succ,Array.replicate_zero,List.push_toArray,List.append_toArray,List.nil_append,List.cons_append]
 gi_wp2_with (refine⟨trivial,?_⟩;gi_at_call 48;refine(callsIn_wide.2 (xall_any _ _)).mono ?_;rintro e w' ⟨rfl,rfl⟩)
 obtain⟨z1,hz1⟩:∃ z1,w.heap.size=z1:=⟨_,rfl⟩
 obtain⟨W0,hW0⟩:∃ W0,((w.alloc (.cells #[.pointer (some ⟨G.kp,0,none⟩)] 26)).alloc (.cells #[.int .u32 (z:Nat)] 22)).alloc (.cells #[.pointer (some ⟨G.kp,4,none⟩)] 166)=W0:=⟨_,rfl⟩
 have hB0:Below w.heap.size w W0:=by rw [←hW0];exact(((Below.refl _ w).alloc (Nat.le_refl _) _).alloc (by simp) _).alloc (by simp;omega) _
 have hS0:W0.heap.size=w.heap.size+1+1+1:=by rw [←hW0];simp
 have hC0:W0.cell? ⟨w.heap.size,0,none⟩=some (.pointer (some ⟨G.kp,0,none⟩)):=by
  rw [←hW0]
  have h1:=alloc_at w (.cells #[.pointer (some ⟨G.kp,0,none⟩)] 26)
  have h2:=(alloc_below (w.alloc (.cells #[.pointer (some ⟨G.kp,0,none⟩)] 26)) (.cells #[.int .u32 (z:Nat)] 22)).block w.heap.size (by rw [alloc_size];omega)
  have h3:=(alloc_below ((w.alloc (.cells #[.pointer (some ⟨G.kp,0,none⟩)] 26)).alloc (.cells #[.int .u32 (z:Nat)] 22)) (.cells #[.pointer (some ⟨G.kp,4,none⟩)] 166)).block w.heap.size (by rw [alloc_size,alloc_size];omega)
  rw [cell_of ((h3.trans h2).trans h1)]
  rfl
 have hC1:W0.cell? ⟨w.heap.size+1,0,none⟩=some (.int .u32 (z:Nat)):=by
  rw [←hW0]
  have h1:=alloc_at (w.alloc (.cells #[.pointer (some ⟨G.kp,0,none⟩)] 26)) (.cells #[.int .u32 (z:Nat)] 22)
  have h3:=(alloc_below ((w.alloc (.cells #[.pointer (some ⟨G.kp,0,none⟩)] 26)).alloc (.cells #[.int .u32 (z:Nat)] 22)) (.cells #[.pointer (some ⟨G.kp,4,none⟩)] 166)).block (w.heap.size+1) (by rw [alloc_size,alloc_size];omega)
  rw [alloc_size] at h1
  rw [cell_of (h3.trans h1)]
  rfl
 have hC2:W0.cell? ⟨w.heap.size+1+1,0,none⟩=some (.pointer (some ⟨G.kp,4,none⟩)):=by
  rw [←hW0]
  have h1:=alloc_at ((w.alloc (.cells #[.pointer (some ⟨G.kp,0,none⟩)] 26)).alloc (.cells #[.int .u32 (z:Nat)] 22)) (.cells #[.pointer (some ⟨G.kp,4,none⟩)] 166)
  rw [alloc_size,alloc_size] at h1
  rw [cell_of h1]
  rfl
 have hmx:Tryz.prog.follows .mixedOrders=true:=by kernel_rfl
 simp only [World.size_alloc,hW0]
 obtain⟨own,hA,hX,hF⟩:=h.fresh hB0
 have f0:=hF _ (Nat.le_refl w.heap.size)
 have f1:=hF (w.heap.size+1) (by omega)
 have c50:=hA.c5
 have hA0:=hA.arrO
 have hmb:=hA.mb
 have hrs:=hA.rs
 have hmb0:=h.mb
 have hrs0:=h.rs
 clear hW0
 rw [hz1] at hB0 hS0 hC0 hC1 hC2 f0 f1 hmb0 hrs0
 simp only [hz1]
 have HF0:Hid (own z1=0/\own (z1+1)=0/\W0.cell? ⟨z1,0,none⟩=some (.pointer (some ⟨G.kp,0,none⟩))/\W0.cell? ⟨z1+1,0,none⟩=some (.int .u32 (z:Nat))/\G.mb < W0.heap.size/\G.rs<=W0.heap.size):=⟨f0,f1,hC0,hC1,hmb,hrs⟩
 have HXX:Hid (Ext o0 own w0 W0):=hX
 clear hX hF f0 f1 hC0 hC1 hmb hrs
 refine wpIn_rangeFunc_ownG rfl (by omega) (gf:=88) (lb:=#[.pointer (some ⟨z1+1+1,0,none⟩)]) rfl trivial (enters_of Tryz.func88 (by kernel_rfl) rfl)
  (xseq_stops _ (by omega) (z1+1+1) G.kp G.oa G.xp _ W0 hC2 c50 hA0) KA.trans ka_b (Below.refl _ _) (fun _=>rfl)
  (fun pre W=>St own W0 G W ((pre.map Subtype.val).foldl (letGo z) k))
  (fun _ _ _=>False)
  (ownFrom_of fun pre W W' i1 hc hb=>i1.cellsKept (hb W0.heap.size (Nat.le_refl _) i1.size) hc HF0.out.2.2.2.2.1 HF0.out.2.2.2.2.2 (Nat.le_refl _))
  (fun _ _ _ _ _ hs _ _=>hs)
  hA
  (fun x=>{ tmps:=List.toArray ((.pointer (some ⟨G.kp,0,none⟩)) :: (.int .u32 (z:Nat)) :: (.pointer (some ⟨z1,0,none⟩)) :: (.pointer (some ⟨z1+1,0,none⟩)) :: (.pointer (some ⟨(G.xp x.1),0,none⟩)) :: (.pointer (some ⟨G.kp,0,none⟩)) :: (.pointer (some ⟨G.kp,0,none⟩)) :: (.pointer (some ⟨G.kp,4,none⟩)) :: (.func (.func 88) #[] #[.pointer (some ⟨z1+1+1,0,none⟩)]) :: (.pointer (some ⟨(G.xp x.1),0,none⟩)) :: undef :: undef :: undef :: undef :: undef :: undef :: undef :: undef :: undef :: []),defers:=[] }) ?assign ?body ?done ?stop
 case assign =>
  intro l x W K hK
  gi_wp2
  exact hK
 case body =>
  rintro l pre x W i1 hlt
  obtain⟨kp,hkp⟩:∃ kp,(pre.map Subtype.val).foldl (letGo z) k=kp:=⟨_,rfl⟩
  have hcp:Core kp (z:Int) D:=hkp ▸ lets_core hz _ _ HC.out
  have hsome:∀ j,(kp.os j).isSome=(k.os j).isSome:=fun j=>hkp ▸ lets_some hz j _ _ HC.out
  have hx2:(k.os x.1).isSome=true:=by have:=x.2.2;simp only [Bool.and_eq_true] at this;exact this.1
  obtain⟨xx,hxx⟩:=Option.isSome_iff_exists.1 ((hsome x.1).trans hx2)
  rw [hkp] at i1
  have hfold:((pre ++ [x]).map Subtype.val).foldl (letGo z) k=letGo z kp x.1:=by rw [List.map_append,List.foldl_append,hkp];rfl
  have HFO:Hid (((pre ++ [x]).map Subtype.val).foldl (letGo z) k=letGo z kp x.1):=hfold
  obtain⟨own2,hA2,hX2,hN2⟩:=i1.anewC
  have HX2:Hid (Ext own own2 W0 W):=hX2
  have HK2:Hid (∀ W' k',St own2 W G W' k'->(∀ j,(k'.os j).isSome=(kp.os j).isSome)->KeepsFrom W0.heap.size W W'/\KA G.oa W W'):=fun W' k' hs' he=>⟨hs'.keepsFrom hN2 HF0.out.2.2.2.2.1 HF0.out.2.2.2.2.2,ka_St hA2 hs' hs'.size he⟩
  have HI1:Hid (St own W0 G W kp):=i1
  have b0:=i1.cell HF0.out.1 HF0.out.2.2.1
  have b1:=i1.cell HF0.out.2.1 HF0.out.2.2.2.1
  have e5:=i1.e5 hxx
  have hpos:(0:Int)<=(z:Int):=by omega
  have HA2:Hid (St own2 W G W kp):=hA2
  have HL:Hid (Calls Tryz.prog 104 #[.pointer (some ⟨G.op x.1,0,none⟩),.int .u32 (z:Nat)] W.drew fun e w'=>e=.returned (.bool (Ob.lB xx.x z))/\St own2 W G w' (kp.setO x.1 { xx with x:=Ob.lT xx.x z })):=k_leave hA2.drew hxx z hpos
  have HZ:Hid (z≠0/\(z:Int)<=4294967295):=⟨hz,by omega⟩
  have HCP:Hid (Core kp (z:Int) D):=hcp
  have HXX:Hid (kp.os x.1=some xx):=hxx
  have HSO:Hid (∀ j,((letGo z kp x.1).os j).isSome=(kp.os j).isSome):=fun j=>letGo_some hcp hz x.1 j
  cases hb:Ob.lB xx.x z with
  | false =>
   have e1:letGo z kp x.1=kp:=by unfold letGo;rw [hxx];simp [hb]
   have e2:kp.setO x.1 { xx with x:=Ob.lT xx.x z }=kp:=by rw [leave_same _ _ hb];exact setO_same hxx
   rw [e1] at HFO
   rw [e2,hb] at HL
   clear hcp hsome hx2 hfold hX2 hN2 i1 hA2 hpos hxx e1 e2 hb hkp hS0
   gi_wp2
   gi_region_with_o (first
    |(refine⟨trivial,?_⟩;gi_at_call 104;refine(callsIn_wide.2 HL.out).mono ?_;rintro e w4 ⟨rfl,h4⟩;have S4:Hid (St own2 W G w4 kp):=h4;clear h4)
    | fail)
   all_goals
    gi_wp2
    exact⟨(HK2.out _ _ S4.out fun _=>rfl).1,(HK2.out _ _ S4.out fun _=>rfl).2,show St own W0 G _ (((pre ++ [x]).map Subtype.val).foldl (letGo z) k) from HFO.out ▸ S4.out.from HX2.out⟩
  | true =>
   have e1:letGo z kp x.1=serve (kp.setO x.1 { xx with x:=Ob.lT xx.x z }) x.1:=by unfold letGo;rw [hxx];simp [hb]
   have hc2:Core (kp.setO x.1 { xx with x:=Ob.lT xx.x z }) (z:Int) D:=leave_core hcp hz hxx
   have HSV:Hid (∀ wx,St own2 W G wx (kp.setO x.1 { xx with x:=Ob.lT xx.x z })->Calls Tryz.prog 60 #[.pointer (some ⟨G.kp,0,none⟩),.pointer (some ⟨G.xp x.1,0,none⟩)] wx fun e w'=>e=.returned (.tuple #[])/\St own2 W G w' (letGo z kp x.1)):=fun wx hx=>by
    have:=serve_any hx hc2 (by omega) (setO_at kp x.1 _)
    rw [←e1] at this
    exact this
   have HB4:Hid (own2 z1=0/\W.cell? ⟨z1,0,none⟩=some (.pointer (some ⟨G.kp,0,none⟩))):=⟨hX2.zero _ (by omega) HF0.out.1,b0⟩
   rw [hb] at HL
   clear hcp hsome hx2 hfold hX2 hN2 i1 hA2 hpos hxx e1 hb hkp hc2 hS0
   gi_wp2
   gi_region_with_o (first
    |(refine⟨trivial,?_⟩;gi_at_call 104;refine(callsIn_wide.2 HL.out).mono ?_;rintro e w4 ⟨rfl,h4⟩;have S4:Hid (St own2 W G w4 (kp.setO x.1 { xx with x:=Ob.lT xx.x z })):=h4;have b4:=h4.cell HB4.out.1 HB4.out.2;clear h4)
    | fail)
   all_goals
    gi_wp2_with (refine⟨trivial,?_⟩;gi_at_call 60;refine(callsIn_wide.2 (HSV.out _ S4.out)).mono ?_;rintro e w5 ⟨rfl,h5⟩;have S5:Hid (St own2 W G w5 (letGo z kp x.1)):=h5;clear h5)
    exact⟨(HK2.out _ _ S5.out HSO.out).1,(HK2.out _ _ S5.out HSO.out).2,show St own W0 G _ (((pre ++ [x]).map Subtype.val).foldl (letGo z) k) from HFO.out ▸ S5.out.from HX2.out⟩
 case done =>
  rintro D ys W hD hys i1 hK
  have HYS:Hid ((ys.map Subtype.val).foldl (letGo z) k=lets k z):=by
   show _=_
   rw [hys]
   exact lets_filter hz _ k HC.out _ fun o=>by rw [hG o];simp
  gi_wp2
  refine⟨by simp,.inl ⟨_,_,rfl,run_takeDeferred hK,?_⟩⟩
  have hg:=grownBy_putObj' W D (.deferred none)
  have hnD:∀ (b:Nat) cs ty f,W.heap[b]?=some (.cells cs ty f)->b≠D:=fun b cs ty f hb e=>by subst e;rw [hK] at hb;cases hb
  refine⟨_,results_none rfl _ _ _,rfl,?_⟩
  rw [HYS.out] at i1
  have hb:Below W0.heap.size W (W.putObj D (.deferred none)):=⟨hg.os,hg.tape,hg.output,hg.size,fun b hb=>hg.block b (Nat.lt_of_lt_of_le hb i1.size) (fun e=>by have:b=D:=(by simpa using e);omega)⟩
  exact(i1.cellsKept hb (fun b cs t f hc=>(hg.block b (at_lt hc) (fun e=>hnD b cs t f hc (by simpa using e))).trans hc) HF0.out.2.2.2.2.1 HF0.out.2.2.2.2.2 (Nat.le_refl _)).from HXX.out
 case stop =>
  rintro D c pre W _ _ h _
  exact h.elim
end
end Go.Proofs.YtbbdndfibjdcfaaGreat
namespace Go.Proofs.YtbbdndfibjdcfaaGreat
open Go Go.RowKit
theorem Ends.less{ts:Nat->Option Ta}{wc:Int}{ys:List (Int×Int)}(h:Ends ts wc ys){i:Nat}{t:Ta}(hn:ts i=some t)(hl:t.left<=0):Ends (set1 ts i none) wc ys:=by
 have g:∀ j u,set1 ts i none j=some u->ts j=some u:=fun j u hu=>by
  by_cases e:j=i
  ·subst e;rw [set1_at] at hu;cases hu
  ·rw [set1_ne _ _ e] at hu;exact hu
 have f:∀ j u,ts j=some u->0 < u.left->set1 ts i none j=some u:=fun j u hu h0=>by
  rw [set1_ne _ _ (by rintro rfl;rw [hn] at hu;obtain rfl:=Option.some.inj hu;omega)];exact hu
 refine⟨fun y=>?_,h.ord.imp fun hab s u hs hu=>hab s u (g _ _ hs) (g _ _ hu),fun j u hu h0=>h.top j u (g j u hu) h0⟩
 rw [h.mem y]
 constructor
 ·rintro ⟨j,u,e,hu,h0⟩;exact⟨j,u,e,f j u hu h0,h0⟩
 ·rintro ⟨j,u,e,hu,h0⟩;exact⟨j,u,e,g j u hu,h0⟩
theorem taC_gone(G:Geo)(ts:Nat->Option Ta){i:Nat}(hi:i < 16):taC G (set1 ts i none)=(taC G ts).setIfInBounds i (.pointer none):=by
 unfold taC
 apply Array.ext'
 simp only [List.setIfInBounds_toArray]
 apply List.ext_getElem?
 intro j
 by_cases e:j=i
 ·subst e
  rw [List.getElem?_set_self (by simpa using hi),List.getElem?_map,List.getElem?_range hi]
  simp [tPt,set1_at]
 ·rw [List.getElem?_set_ne (fun c=>e c.symm),List.getElem?_map,List.getElem?_map]
  rcases Nat.lt_or_ge j 16 with c | c
  ·rw [List.getElem?_range c]
   simp only [Option.map_some]
   congr 1
   unfold tPt
   rw [set1_ne _ _ e]
  ·rw [List.getElem?_eq_none (by simpa using c)];rfl
theorem KX.shutGone{own:Nat->Nat}{G:Geo}{w:World}{k:Kn}{i:Nat}{t:Ta}(h:KX 4 own G w k)(h1:own G.ta=4)(h2:w.heap[G.ta]?=some (.cells (taC G (set1 k.ts i none)) 109 (0,0)))(ht:k.ts i=some t)(hl:t.left<=0):KM own G w { k with ts:=set1 k.ts i none }:=by
 have g:∀ j u,set1 k.ts i none j=some u->k.ts j=some u:=fun j u hu=>by
  by_cases e:j=i
  ·subst e;rw [set1_at] at hu;cases hu
  ·rw [set1_ne _ _ e] at hu;exact hu
 refine⟨fun _=>h.kern (by decide),fun _=>h.tn (by decide),fun _=>h.on (by decide),fun _=>⟨h1,h2⟩,fun _=>h.oa (by decide),fun _=>h.rd (by decide),fun _=>?_,fun _=>h.al (by decide),h.nc,h.slo,fun j u hu=>h.av j u (g j u hu),h.xs,fun j u hu=>h.ti j u (g j u hu),h.oi,fun j u hu _=>h.task j u (g j u hu) (by have:=h.ti j u (g j u hu);omega),fun o x hx _=>h.thg o x hx (by omega),fun o x hx _=>h.obj o x hx (by omega),fun o x hx _=>h.que o x hx (by omega)⟩
 obtain⟨a,v,ys,c,d,e⟩:=h.en (by decide)
 exact⟨a,v,ys,c,d,e.less ht hl⟩
section
variable {o0:Nat->Nat} {w0 w w':World} {G:Geo} {k:Kn}
theorem St.gone(h:St o0 w0 G w k){i:Nat}{t:Ta}(ht:k.ts i=some t)(hl:t.left<=0):St o0 w0 G (w.setCell ⟨G.ta,i,none⟩ (.pointer none)) { k with ts:=set1 k.ts i none }/\(w.setCell ⟨G.ta,i,none⟩ (.pointer none)).heap[G.tp i]?=some (.cells (tC G i t) 79 (0,0)):=by
 have hi:=h.ti ht
 have ht':=h.t ht
 obtain⟨own,h,x⟩:=h
 obtain⟨h1,h2⟩:=h.ta (by decide)
 have ho:=(h.task i t ht (by omega)).1
 have hne:G.tp i≠G.ta:=fun e=>by rw [e] at ho;omega
 have hoff:Off own 4 w (w.setCell ⟨G.ta,i,none⟩ (.pointer none)):=off_cell w i _ h1
 have hc:=set_block h2 i (.pointer none)
 rw [←taC_gone G k.ts hi] at hc
 exact⟨⟨_,(h.off hoff).shutGone ((ext_cl (Cl.of hc) (at_lt h2)).trans h1) hc ht hl,x.trans (hoff.ext (by decide))⟩,(Below.heap_setCell _ _ _ _ hne).trans ht'⟩
theorem k_hdrop(h:St o0 w0 G w k)(z:Nat)(hz:z<=4294967295):Calls Tryz.prog 97 #[.pointer (some ⟨G.tn,0,none⟩),.int .u32 (z:Nat)] w fun e w'=>(∃ v,e=.returned v)/\St o0 w0 G w' { k with th:=Hd.dropS k.th z }:=by
 obtain⟨own,h,x⟩:=h
 obtain⟨h1,h2⟩:=h.tn (by decide)
 refine(Hd.drop_any h2 z hz).mono fun e w' ⟨he,hT,hb⟩=>⟨⟨_,he⟩,?_⟩
 have hoff:Off own 2 w w':=off_hd hb (by simpa using h1)
 exact⟨_,(h.off hoff).shutTn ((ext_cl (tab_cl hT) h2.lt).trans h1) hT,x.trans (hoff.ext (by decide))⟩
theorem tdrop_any(h:St o0 w0 G w k)(z:Nat)(hz:z<=4294967295)(he:Hd.placeE k.th z=0){t:Ta}(ht:k.ts (Hd.placeP k.th z)=some t)(hl:t.left<=0):Calls Tryz.prog 105 #[.pointer (some ⟨G.kp,2,none⟩),.int .u32 (z:Nat)] w fun e w'=>e=.returned (.tuple #[])/\St o0 w0 G w' { k with th:=Hd.dropS k.th z,ts:=set1 k.ts (Hd.placeP k.th z) none }/\w'.heap[G.tp (Hd.placeP k.th z)]?=some (.cells (tC G (Hd.placeP k.th z) t) 79 (0,0)):=by
 have HP:=k_place h z hz
 rw [he] at HP
 have c2:=h.c2
 have HT:Hid (k.ts (Hd.placeP k.th z)=some t/\t.left<=0):=⟨ht,hl⟩
 have hi:=h.ti ht
 have HD:Hid (∀ wx,St o0 w0 G wx k->Calls Tryz.prog 97 #[.pointer (some ⟨G.tn,0,none⟩),.int .u32 (z:Nat)] wx fun e w'=>(∃ v,e=.returned v)/\St o0 w0 G w' { k with th:=Hd.dropS k.th z }):=fun wx hx=>k_hdrop hx z hz
 have hiI:((Hd.placeP k.th z:Nat):Int) < 16:=by omega
 clear h ht hl he
 generalize Hd.dropS k.th z=S at *
 generalize Hd.placeP k.th z=i at *
 have HI:Hid (i < 16):=hi
 clear hi
 go_enter Tryz.func105,Tryz.ntmps105
 go_wp2_with (first
  |(go_at_call 91;refine HP.mono ?_;rintro e w1 ⟨rfl,h1,b1⟩;have S1:Hid (St o0 w0 G w1 k):=h1;have v2:=h1.c2;clear h1 b1)
  |(go_at_call 97;refine(HD.out _ S1.out).mono ?_;rintro e w2 ⟨⟨vv,rfl⟩,h2⟩;have S2:Hid (St o0 w0 G w2 { k with th:=S }):=h2;have v3:=h2.c3;have vt:=h2.tat HI.out;have vf:w2.frozen? ⟨G.ta,i,none⟩=false:=(by simp [World.frozen?,h2.ta]);clear h2))
 go_end0
 obtain⟨q1,q2⟩:=St.gone (k:={ k with th:=S }) S2.out HT.out.1 HT.out.2
 exact⟨rfl,q1,q2⟩
def gone1(k:Kn)(z i:Nat)(t:Ta):Kn:={ k with os:=unq k.os i t.on,ts:=set1 k.ts i none,rd:=Rd.rmX k.rd (i:Int),th:=Hd.dropS k.th z }
theorem end1_any(h:St o0 w0 G w k)(hG:Shown G){z:Nat}(hz0:z≠0)(hz:z<=4294967295)(he:Hd.placeE k.th z=0){t:Ta}(ht:k.ts (Hd.placeP k.th z)=some t)(hh:t.h=z)(hon:0<=t.on->∃ x,k.os t.on.toNat=some x){D:Nat->Prop}(hc:Core (gone1 k z (Hd.placeP k.th z) t) (z:Int) D) :
  Calls Tryz.prog 64 #[.pointer (some ⟨G.kp,0,none⟩),.pointer (some ⟨G.tp (Hd.placeP k.th z),0,none⟩)] w fun e w'=>e=.returned (.tuple #[])/\St o0 w0 G w' (lets (gone1 k z (Hd.placeP k.th z) t) z):=by
 have HR:=rest_any h ht hon
 have hr1:(restC k (Hd.placeP k.th z)).ts (Hd.placeP k.th z)=some t.idle:=restC_at k ht
 have hth:(restC k (Hd.placeP k.th z)).th=k.th:=by unfold restC;rw [ht]
 have hg:({ (restC k (Hd.placeP k.th z)) with th:=Hd.dropS k.th z,ts:=set1 (restC k (Hd.placeP k.th z)).ts (Hd.placeP k.th z) none }:Kn)=gone1 k z (Hd.placeP k.th z) t:=by unfold restC gone1;simp only [ht,set1_set1]
 have HD:Hid (∀ wx,St o0 w0 G wx (restC k (Hd.placeP k.th z))->Calls Tryz.prog 105 #[.pointer (some ⟨G.kp,2,none⟩),.int .u32 (z:Nat)] wx fun e w'=>e=.returned (.tuple #[])/\St o0 w0 G w' (gone1 k z (Hd.placeP k.th z) t)/\w'.cell? ⟨G.tp (Hd.placeP k.th z),0,none⟩=some (.int .u32 (z:Nat))):=fun wx hx=>by
  have:=tdrop_any hx z hz (by rw [hth];exact he) (t:=t.idle) (by rw [hth];exact hr1) (by show(0:Int)<=0;decide)
  rw [hth] at this
  refine this.mono fun e w' ⟨a,b,c⟩=>⟨a,hg ▸ b,?_⟩
  rw [cell_of c,←hh]
  rfl
 have HL:Hid (∀ wx,St o0 w0 G wx (gone1 k z (Hd.placeP k.th z) t)->Calls Tryz.prog 63 #[.pointer (some ⟨G.kp,0,none⟩),.int .u32 (z:Nat)] wx fun e w'=>e=.returned (.tuple #[])/\St o0 w0 G w' (lets (gone1 k z (Hd.placeP k.th z) t) z)):=fun wx hx=>letGo_any hx hG hz0 hz hc
 have HT1:Hid ((restC k (Hd.placeP k.th z)).ts (Hd.placeP k.th z)=some t.idle/\t.idle.h=z):=⟨hr1,hh⟩
 clear h ht hon hc hr1 hth hg he hh
 generalize gone1 k z (Hd.placeP k.th z) t=k2 at *
 generalize restC k (Hd.placeP k.th z)=k1 at *
 generalize Hd.placeP k.th z=i at *
 go_enter Tryz.func64,Tryz.ntmps64
 go_wp2_with (first
  |(go_at_call 62;refine HR.mono ?_;rintro e w1 ⟨rfl,h1⟩;have S1:Hid (St o0 w0 G w1 k1):=h1;have S1d:Hid (St o0 w0 G w1.drew k1):=h1.drew;have y0:w1.cell? ⟨G.tp i,0,none⟩=some (.int .u32 (z:Nat)):=(h1.d0 HT1.out.1).trans (by rw [HT1.out.2]);clear h1))
 go_region_held3 (fun w'=>w'.cell? ⟨G.tp i,0,none⟩=some (.int .u32 (z:Nat))) (go_keep) (first
  |(go_at_call 105;refine(HD.out _ S1d.out).mono ?_;rintro e w3 ⟨rfl,h3,h4⟩;have S3:Hid (St o0 w0 G w3 k2):=h3;have x0:=h4;clear h3)
  | fail)
 go_wp2_with (first
  |(go_at_call 63;refine(HL.out _ S3.out).mono ?_;rintro e w4 ⟨rfl,h5⟩;have S4:Hid (St o0 w0 G w4 (lets k2 z)):=h5;clear h5))
 go_end0
 exact⟨rfl,S4.out⟩
end
end Go.Proofs.YtbbdndfibjdcfaaGreat
namespace Go.Proofs.YtbbdndfibjdcfaaGreat
open Go Go.RowKit
theorem gone_core{k:Kn}(h:Fin k){z:Nat}(he:Hd.placeE k.th z=0){t:Ta}(ht:k.ts (Hd.placeP k.th z)=some t)(hz:t.h=z):Core (gone1 k z (Hd.placeP k.th z) t) (z:Int) NoD:=by
 obtain⟨b1,b2⟩:=drop_ok h.core.th he
 have hd:=h.core.dead (k':=gone1 k z (Hd.placeP k.th z) t) ht (y:=((k.th (Hd.placeP k.th z)).1,false)) b1 rfl b2 rfl rfl rfl rfl
 rw [hz] at hd
 exact hd
theorem gone_lets{k:Kn}(h:Fin k){z:Nat}(he:Hd.placeE k.th z=0){t:Ta}(ht:k.ts (Hd.placeP k.th z)=some t)(hz:t.h=z)(h0:z≠0):Core (lets (gone1 k z (Hd.placeP k.th z) t) z) 0 NoD/\SelfK (lets (gone1 k z (Hd.placeP k.th z) t) z):=by
 have hd:=gone_core h he ht hz
 have hts:∀ j u,(gone1 k z (Hd.placeP k.th z) t).ts j=some u->j≠Hd.placeP k.th z/\k.ts j=some u:=fun j u hu=>by
  have hu:set1 k.ts (Hd.placeP k.th z) none j=some u:=hu
  by_cases c:j=Hd.placeP k.th z
  ·rw [c,set1_at] at hu;cases hu
  ·rw [set1_ne _ _ c] at hu;exact⟨c,hu⟩
 have hm:Mono k (gone1 k z (Hd.placeP k.th z) t):=by
  refine⟨⟨fun j u hu hs=>⟨u,(hts j u hu).2,hs,rfl,rfl,rfl,rfl,rfl⟩,fun j u hu hs=>⟨u,(hts j u hu).2,hs,rfl,rfl⟩⟩,fun o y hy=>?_⟩
  have hy':unq k.os (Hd.placeP k.th z) t.on o=some y:=hy
  rw [unq_eq] at hy'
  obtain⟨x,hx,rfl⟩:=rowsF_some (F:=fun o q=>if t.on=(o:Int) then Wt.gone q ((Hd.placeP k.th z:Nat):Int) else q) hy'
  exact⟨x,hx,rfl⟩
 have hM:=Mid3.lets h0 (List.range 32) _ ⟨hd,h.srv.mono hm,h.self.mono hm,h.fb.mono hm.toMonoT⟩
 exact⟨(hd.letsAll h0 fun j u hj hs e=>(hts j u hj).1 (h.core.apart (hts j u hj).2 ht (by rw [e,hz]))).1,hM.self⟩
section
variable {o0:Nat->Nat} {w0 w w':World} {G:Geo} {k:Kn}
theorem now_any(h:St o0 w0 G w k):Calls Tryz.prog 24 #[.pointer (some ⟨G.kp,0,none⟩)] w fun e w'=>e=.returned (.int .u32 k.now)/\w=w':=by
 have HTh:=there_any h h.slo.1.1
 have c1:=h.c1
 clear h
 go_enter Tryz.func24,Tryz.ntmps24
 go_wp2_with (first
  |(go_at_call 41;refine HTh.mono ?_;rintro e w1 ⟨rfl,rfl⟩))
 go_ret
 exact⟨rfl,rfl⟩
theorem runs_any(h:St o0 w0 G w k)(hf:Fin k):Calls Tryz.prog 22 #[.pointer (some ⟨G.kp,0,none⟩)] w fun e w'=>e=.returned (.int .u32 (runs k:Nat))/\St o0 w0 G w' k/\Below w.heap.size w w':=by
 have HTh:=there_any h h.slo.1.1
 have HRun:=running_any h (run_in h (hf.core.nm (by omega)))
 cases hb:Rd.fsb k.rd with
 | false =>
  have e:runs k=0:=by unfold runs;rw [hb];rfl
  rw [e]
  rw [runP_no hb] at HRun
  clear h hf hb e
  go_enter Tryz.func22,Tryz.ntmps22
  go_wp2_with (first
   |(go_at_call 41;refine HTh.mono ?_;rintro e w1 ⟨rfl,rfl⟩)
   |(go_at_call 65;refine HRun.mono ?_;rintro e w1 ⟨rfl,h1,b1⟩;have S1:Hid (St o0 w0 G w1 k/\Below w.heap.size w w1):=⟨h1,b1⟩;clear h1 b1))
  go_ret
  exact⟨rfl,S1.out⟩
 | true =>
  obtain⟨t,r,_,_,_,ht,_⟩:=hf.core.first hb
  have e:runs k=t.h:=by unfold runs;rw [if_pos hb,ht]
  rw [e]
  rw [runP_yes hb ht] at HRun
  have HT:Hid (k.ts (Rd.fsv k.rd).toNat=some t):=ht
  clear h hf e ht hb
  generalize (Rd.fsv k.rd).toNat=i at *
  go_enter Tryz.func22,Tryz.ntmps22
  go_wp2_with (first
   |(go_at_call 41;refine HTh.mono ?_;rintro e w1 ⟨rfl,rfl⟩)
   |(go_at_call 65;refine HRun.mono ?_;rintro e w1 ⟨rfl,h1,b1⟩;have S1:Hid (St o0 w0 G w1 k/\Below w.heap.size w w1):=⟨h1,b1⟩;have d0:=h1.d0 HT.out;clear h1 b1))
  go_ret
  exact⟨rfl,S1.out⟩
end
end Go.Proofs.YtbbdndfibjdcfaaGreat
