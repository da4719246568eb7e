/- Package kernel, proved: part KtTm2. No law of the program itself. -/
import Derived.Test.YtbbdndfibjdcfaaGreatKtTm1
import Derived.Test.YtbbdndfibjdcfaaGreatKtA1
set_option maxRecDepth 100000
set_option linter.all false
set_option maxHeartbeats 16000000
namespace Go.Proofs.YtbbdndfibjdcfaaGreat.Tm
open Go Go.RowKit Go.Shelf
attribute [local go_sem] Oper.semAt_some
theorem step_append_in{n:Nat}{P:Program}{ops:Array Oper}{o:Oper}{a:Act}{w:World}{K:Act->World->Prop}{Q:Exit->Act->World->Prop}{X:Prop}(hgd:o.guard=none)(s x:Operand)(t:TypeId)
  (ho:o.op=.call { callee:=.builtin .append,args:=#[s,x],argTypes:=#[t,t] })
  (base:Nat) (e:TypeId) (i:TypeInfo) (z:Value) (size bytes:Nat) (ht:P.underlying t=some (.slice e)) (hi:P.info? e=some i) (hz:i.zero=some z)
  (hsize:i.size=size) (hby:i.bytes=bytes) (hzs:z.cells.size=size) (hsz:0 < size)
  (v:Value) (k:Nat) (xs:List Value) (hs:a.eval s=v) (hown:w.ownsRow base e size v k xs)
  (ad:Addr) (m c:Nat) (news:List Value) (hx:a.eval x=.slice (some ad) m c) (hl:news.length=m * size) (hnews:∀ j u,news[j]?=some u->w.cell? (ad.add j)=some u) (h1:∀ u∈news,u.oneCell'=true)
  (h63:k+m<=maxLen) (hbytes:(k+m) * bytes<=140737488355328) (hbase:base<=w.heap.size)
  (h:∀ v' w',w'.ownsRow base e size v' (k+m) (xs ++ news)->w.grownBy w' v.ownBlock->(v'=.slice none 0 0↔v=.slice none 0 0/\m=0)->K (a.put o.dst v') w') :
  if Region.wanted o (yielded ops a.tmps)=true then Oper.wpIn Fence.wide n P o a w K Q else X:=by
 have hw:Region.wanted o (yielded ops a.tmps)=true:=by simp [Region.wanted,hgd]
 rw [if_pos hw]
 obtain⟨v',w',hr,h2,h3,h4⟩:=run_append_own (P:=P) w base t o.type e i z size bytes ht hi hz hsize hby hzs hsz v k xs hown ad m c news hl hnews h1 h63 hbytes hbase
 unfold Oper.wpIn
 refine⟨?_,?_⟩
 ·simp [Oper.about,ho,resolve,Target.leads,Sem.run_pure]
 ·rw [Oper.semAt_plain Fence.wide _ _ (by rw [ho];intro c hc';cases hc')]
  simp [execOp,ho,resolve,invoke,builtin,hs,hx,hr,Result.andThen]
  exact h v' w' h2 h3 h4
theorem sh_dec(xs:List (Int×Int)):shAt 0 (-1) (dl 0 xs)=dl 0 (xs.map dec):=by
 rw [dl_dec,dl_sh xs 0 (0+1)]
 simp [shAt]
theorem dec_getD{xs:List (Int×Int)}{k:Nat}(h:k < xs.length):(xs.map dec).getD k (0,0)=dec (xs.getD k (0,0)):=by
 rw [List.getD_eq_getElem?_getD,List.getD_eq_getElem?_getD,List.getElem?_map,List.getElem?_eq_getElem h]
 rfl
theorem delete_next{B:Nat}{W:World}{p:Nat}{v:Value}{ds:List (Int×Int)}(h:Ch B W p v ds){k:Nat}(hk:k<=ds.length) :
  Calls Tryz.prog 130 #[v,.int .i64 0,.int .i64 (k:Int)] W.drew fun e w'=>∃ s2 c2,e=.returned (.slice s2 (ds.length - k) c2)/\Ch B (w'.setCell ⟨p,1,none⟩ (.slice s2 (ds.length - k) c2)) p (.slice s2 (ds.length - k) c2) (ds.drop k) /\
   Buts (p :: v.ownBlock.toList) W (w'.setCell ⟨p,1,none⟩ (.slice s2 (ds.length - k) c2))/\(Value.slice s2 (ds.length - k) c2).ownBlock=v.ownBlock/\w'.cell? ⟨p,1,none⟩=some v/\w'.frozen? ⟨p,1,none⟩=false/\Buts v.ownBlock.toList W w':=by
 have hd:Own B W.drew v ds:=h.own
 have:=delete_any (i:=0) (j:=k) hd (Nat.zero_le _) hk
 refine Calls.mono (this:Calls Tryz.prog 130 #[v,.int .i64 0,.int .i64 (k:Int)] W.drew _) ?_
 rintro e w' ⟨sp,cap,rfl,ho,hb,hob⟩
 rw [Nat.sub_zero] at ho hob ⊢
 rw [List.take_zero,List.nil_append] at ho
 have hb':Buts v.ownBlock.toList W w':=⟨hb.os,hb.tape,hb.output,hb.size,hb.block⟩
 obtain⟨h1,h2⟩:=h.lay ho hb' (by have:=h.len;simp;omega) (fun b hbk=>Or.inl (hob ▸ hbk))
 have e:w'.heap[p]?=W.heap[p]?:=hb'.block p (at_lt h.head) (fun hm=>h.ne (by simpa using hm) rfl)
 exact⟨sp,cap,rfl,h1,h2,hob,by rw [World.cell?_of_block e];exact h.lnk,by rw [World.frozen?_of_block e];exact h.fp 1,hb'⟩
theorem Nx.putObjT{B:Nat}{w w1:World}{p:Nat}{v:Value}{es:List (Int×Int)}{D:Nat}(h:Nx B w w1 p v es)(hd:w1.heap[D]?=some (.deferred (some [])))(hD:w.heap.size<=D):Nx B w (w1.putObj D (.deferred none)) p v es:=by
 obtain⟨v',hc,hb,hv⟩:=h
 have hbd:Buts [D] w1 (w1.putObj D (.deferred none)):=⟨rfl,rfl,rfl,by simp,fun k _ hk=>World.putObj_heap_other (by simpa using hk)⟩
 refine⟨v',hc.buts hbd (fun hm=>?_) (fun g hg hm=>?_),⟨hb.os,hb.tape,hb.output,Nat.le_trans hb.size (by simp),fun k hk hkl=>?_⟩,hv⟩
 ·have:p=D:=by simpa using hm
  rw [←this,hc.head] at hd;cases hd
 ·obtain⟨cur,hc2⟩:=hc.own.kind hg
  have:g=D:=by simpa using hm
  rw [←this,hc2] at hd;cases hd
 ·rw [World.putObj_heap_other (by omega)]
  exact hb.block k hk hkl
theorem tick_any{B:Nat}{w:World}{p:Nat}{v:Value}{xs:List (Int×Int)}(h:Ch B w p v (dl 0 xs))(hu:Up xs)(hlo:∀ x∈xs,1<=x.2)(hhi:∀ x∈xs,x.2<=1073741824)(hB:B<=w.heap.size) :
  Calls Tryz.prog 85 #[.pointer (some ⟨p,1,none⟩)] w fun e w'=>∃ u,e=.returned u/\w'.ownsRow w.heap.size 3 1 u ((xs.filter (fun y=>decide (y.2=1))).map Prod.fst).length (num ((xs.filter (fun y=>decide (y.2=1))).map Prod.fst))/\(u=.slice none 0 0↔((xs.filter (fun y=>decide (y.2=1))).map Prod.fst)=[])/\Nx B w w' p v (dl 0 ((xs.filter (fun y=>decide (y.2≠1))).map dec)):=by
 have hl:xs.length<=1000:=by have:=h.len;rw [dl_len] at this;exact this
 have HR:Hid (∀ k:Nat,k<=xs.length->(∀ i,i < k->lf (xs.map dec) (i+1)<=0)->(k < xs.length->0 < lf (xs.map dec) (k+1)) ->
   (xs.filter (fun y=>decide (y.2=1))).map Prod.fst=((List.finRange xs.length).take k).map (fun x=>((xs.map dec).getD x.val (0,0)).1)/\(dl 0 (xs.map dec)).drop k=dl 0 ((xs.filter (fun y=>decide (y.2≠1))).map dec)):=by
  intro k hk h1 h2
  have hml:(xs.map dec).length=xs.length:=by simp
  have h1':∀ i,i < k->(xs.getD i (0,0)).2<=1:=fun i hi=>by
   have:=h1 i hi
   rw [lf_succ (by omega),dec_getD (by omega)] at this
   simp only [dec] at this
   omega
  have h2':k < xs.length->1 < (xs.getD k (0,0)).2:=fun hk2=>by
   have:=h2 hk2
   rw [lf_succ (by omega),dec_getD (by omega)] at this
   simp only [dec] at this
   omega
  obtain⟨e1,e2⟩:=cut_tick hu hlo hk h1' h2'
  rw [e1,e2,List.map_drop]
  refine⟨?_,dl_drop (fun x hx=>?_)⟩
  ·apply List.ext_getElem?
   intro j
   by_cases hj:j < k
   ·rw [List.getElem?_map,List.getElem?_take_of_lt hj,List.getElem?_eq_getElem (by omega),List.getElem?_map,List.getElem?_take_of_lt hj,List.getElem?_eq_getElem (by simp;omega)]
    simp only [Option.map_some,List.getElem_finRange]
    congr 1
    show _=((xs.map dec).getD j (0,0)).1
    rw [dec_getD (by omega),List.getD_eq_getElem?_getD,List.getElem?_eq_getElem (by omega)]
    rfl
   ·rw [List.getElem?_eq_none (by simp;omega),List.getElem?_eq_none (by simp;omega)]
  ·rw [←List.map_take] at hx
   obtain⟨y,hy,rfl⟩:=List.mem_map.1 hx
   obtain⟨i,hi,e⟩:=List.getElem_of_mem hy
   rw [List.getElem_take] at e
   have hik:i < k:=by simp at hi;omega
   have h3:=h1' i hik
   have h4:=hlo y (List.mem_of_mem_take hy)
   rw [List.getD_eq_getElem?_getD,List.getElem?_eq_getElem (by omega),Option.getD_some,e] at h3
   simp only [dec]
   omega
 have hbd:Bnd (xs.map dec):=fun x hx=>by
  obtain⟨y,hy,rfl⟩:=List.mem_map.1 hx
  have:=hlo y hy
  have:=hhi y hy
  simp only [dec]
  omega
 obtain⟨t,ht⟩:∃ t,w.heap.size=t:=⟨_,rfl⟩
 have HT:Hid (w.heap.size=t):=ht
 have hwx:0 < (dl 0 xs).length->IntKind.i64.wrap (((dl 0 xs).getD 0 (0,0)).2+-1)=((dl 0 xs).getD 0 (0,0)).2+-1:=by
  intro h0
  rw [dl_len] at h0
  rw [dl_getD h0]
  have e1:lf xs 1=(xs.getD 0 (0,0)).2:=lf_succ h0
  have:=hlo _ (getD_mem h0)
  have:=hhi _ (getD_mem h0)
  unfold bh
  rw [lf_zero,e1,IntKind.wrap_i64]
  omega
 have HS:Hid (Calls Tryz.prog 128 #[.pointer (some ⟨p,1,none⟩),.int .i64 0,.int .i64 (-1)] (w.alloc (Obj.cells #[.pointer (some ⟨p,1,none⟩)] 213)) fun e Wb=>e=.returned (.tuple #[])/\Ch B Wb p v (dl 0 (xs.map dec))/\Boxed Wb t 213 (.pointer (some ⟨p,1,none⟩))/\Buts v.ownBlock.toList w Wb):=by
  have h1:=shift_any (h.below (alloc_below w (Obj.cells #[.pointer (some ⟨p,1,none⟩)] 213))) 0 (-1) hwx
  refine Calls.mono (h1:Calls Tryz.prog 128 #[.pointer (some ⟨p,1,none⟩),.int .i64 0,.int .i64 (-1)] _ _) ?_
  rintro e Wb ⟨rfl,hc,hb⟩
  rw [sh_dec] at hc
  refine⟨rfl,hc,?_,(Buts.of (alloc_below w _)).trans hb⟩
  have hbx:=Boxed.new w 213 (.pointer (some ⟨p,1,none⟩))
  rw [ht] at hbx
  refine(hb.block t hbx.lt (fun hm=>?_)).trans hbx
  have:=(h.own.lt' (g:=t) (by simpa using hm)).2
  omega
 have HH:Hid (Ch B w p v (dl 0 xs)):=h
 clear h hwx hu hlo hhi
 have hmx:Tryz.prog.follows .mixedOrders=true:=by kernel_rfl
 obtain⟨ys,hys⟩:∃ ys,xs.map dec=ys:=⟨_,rfl⟩
 have hyl:xs.length=ys.length:=by rw [←hys];simp
 rw [hys] at HR HS hbd
 clear hys
 refine(callsIn_wide (n:=3)).1 ?_
 refine callsIn_of_wp_marks Tryz.func85 rfl trivial ?_ rfl
 simp only [Tryz.ntmps85,List.size_toArray,List.length_cons,List.length_nil,Nat.reduceAdd,Nat.reduceSub,Array.replicate_succ,Array.replicate_zero,List.push_toArray,List.append_toArray,List.nil_append,List.cons_append]
 gi_wp2_with (first
  |(refine⟨trivial,?_⟩;gi_at_call 128;refine(callsIn_wide.2 HS.out).mono ?_;rintro e Wb ⟨rfl,hc,hbx,hb⟩;have HC:Hid (Ch B Wb p v (dl 0 ys)):=hc;have HBX:Hid (Boxed Wb t 213 (.pointer (some ⟨p,1,none⟩))):=hbx;have HBW:Hid (Buts v.ownBlock.toList w Wb):=hb;have cx:=hbx.cell;have cxa:∀ o:Obj,(Wb.alloc o).cell? ⟨t,0,none⟩=some (.pointer (some ⟨p,1,none⟩)):=(fun o=>((alloc_below Wb o).cell (p:=⟨t,0,none⟩) hbx.lt).trans hbx.cell);clear hc hbx hb)
  |(refine⟨trivial,?_⟩;gi_at_call 129;refine(callsIn_wide.2 (lefts_any p _)).mono ?_;rintro e w' ⟨rfl,rfl⟩))
 rename_i K2 hK2
 clear HS
 obtain⟨q,hq⟩:∃ q,Wb.heap.size=q:=⟨_,rfl⟩
 have HQ:Hid (Wb.heap.size=q):=hq
 obtain⟨sp,g,cap,hv,hsp,hgp,hgl,hcs⟩:=HC.out.seq
 have hpl:=at_lt HC.out.head
 have hlk:=HC.out.lnk
 rw [hv] at hlk
 have HV:Hid (v=.slice sp ys.length cap):=hv
 have HF:Hid (∀ k,k < ys.length->IntKind.i64.wrap (lf ys k+bh ys k)=lf ys (k+1)):=fun k hk=>lf_wrap hbd hk
 have HFB:Hid (∀ k,k<=ys.length->0<=lf ys k/\lf ys k<=1073741824):=fun k hk=>lf_bnd hbd hk
 have htq:t < q:=by have:=HBX.out.lt;omega
 rw [hq] at hgl hpl
 obtain⟨m,hm⟩:∃ m,ys.length=m:=⟨_,rfl⟩
 have HM:Hid (ys.length=m):=hm
 rw [hyl] at HR hl
 rw [hm] at hlk hcs HF HFB hsp hl HV HR
 obtain⟨f,hf⟩:∃ f:Fin m->Int,f=fun k=>(ys.getD k.val (0,0)).1:=⟨_,rfl⟩
 have HFF:Hid (f=fun k=>(ys.getD k.val (0,0)).1):=hf
 have HCS1:Hid (∀ x:Fin m,Wb.cell? ⟨g,x.val * 2,none⟩=some (.int .i64 (f x))):=fun x=>by rw [hf];exact(hcs x.val x.isLt).1
 have HCS2:Hid (∀ k,k < m->Wb.cell? ⟨g,k * 2+1,none⟩=some (.int .i64 (bh ys k))):=fun k hk=>(hcs k hk).2
 rw [←hf] at HR
 obtain⟨F,hFe⟩:∃ F:Nat->Int,F=lf ys:=⟨_,rfl⟩
 have hF0:Hid (F 0=0):=by show _=_;rw [hFe];exact lf_zero ys
 rw [←hFe] at HF HFB HR
 have HLK:Hid (Wb.cell? ⟨p,1,none⟩=some (.slice sp m cap)):=hlk
 clear hcs hf hFe hm hbd hyl hlk hv hgp cx cxa
 generalize bh ys=bd at HF HCS2
 obtain⟨WS,hWS⟩:∃ WS,q+1=WS:=⟨_,rfl⟩
 have b0:=(Boxed.new Wb 111 (.slice none 0 0)).alloc (Obj.cells #[.pointer (some ⟨p,1,none⟩)] 213)
 have b1:=Boxed.new (Wb.alloc (Obj.cells #[.slice none 0 0] 111)) 213 (.pointer (some ⟨p,1,none⟩))
 have hsz:((Wb.alloc (Obj.cells #[.slice none 0 0] 111)).alloc (Obj.cells #[.pointer (some ⟨p,1,none⟩)] 213)).heap.size=WS+1:=by rw [alloc_size,alloc_size,hq,hWS]
 rw [alloc_size,hq,hWS] at b1
 rw [hq] at b0
 have hB0:Below q Wb ((Wb.alloc (Obj.cells #[.slice none 0 0] 111)).alloc (Obj.cells #[.pointer (some ⟨p,1,none⟩)] 213)):=((Below.refl _ Wb).alloc (by omega) _).alloc (by rw [alloc_size];omega) _
 try rw [hq]
 try rw [hWS]
 generalize (Wb.alloc (Obj.cells #[.slice none 0 0] 111)).alloc (Obj.cells #[.pointer (some ⟨p,1,none⟩)] 213)=W0 at *
 have hlk0:=(hB0.cell (p:=⟨p,1,none⟩) hpl).trans HLK.out
 have hcs0:∀ k,k < m->W0.cell? ⟨g,k * 2+1,none⟩=some (.int .i64 (bd k)):=fun k hk=>(hB0.cell (p:=⟨g,k * 2+1,none⟩) hgl).trans (HCS2.out k hk)
 have key2:∀ (k D:Nat) (W:World),k<=m->(∀ i,i < k->F (i+1)<=0)->(k < m->0 < F (k+1))->(∃ u,Boxed W q 111 u/\W.ownsRow q 3 1 u k (num (((List.finRange m).take k).map f))/\(u=.slice none 0 0↔k=0))->Below q Wb W->W.heap[D]?=some (.deferred (some []))->q<=D->K2 { tmps:=#[.pointer (some ⟨p,1,none⟩),.pointer (some ⟨t,0,none⟩),.slice none 0 0,.pointer (some ⟨q,0,none⟩),undef,undef,.pointer (some ⟨p,1,none⟩),.tuple #[],.pointer (some ⟨p,1,none⟩),.func (.func 170) #[] #[.pointer (some ⟨WS,0,none⟩)],undef,undef,undef,undef,undef,undef,undef,undef,undef,undef,undef,undef,undef,undef,undef,undef,undef,undef,undef,undef,undef,undef,undef,undef,undef,undef],defers:=[{ target:=.collected D,args:=#[] }] } W:=by
  rintro k D W1 hkm hlow hhigh ⟨u,hbu,hrow,hnil⟩ hB1 hdef hD
  refine hK2 _ _ ?_
  have hch:Ch B W1 p v (dl 0 ys):=HC.out.below (by rw [HQ.out];exact hB1)
  have hdl:=dl_len ys 0
  have HI:=delete_next hch (show k<=(dl 0 ys).length by rw [hdl,HM.out];exact hkm)
  rw [hdl,HM.out,HV.out] at HI
  obtain⟨us,uc,hu0⟩:∃ us uc,u=.slice us k uc:=by
   obtain⟨a,b,e,_⟩:=own_form hrow
   exact⟨a,b,e⟩
  subst hu0
  have HI':Hid (Calls Tryz.prog 130 #[.slice sp m cap,.int .i64 0,.int .i64 (k:Int)] W1.drew fun e w'=>∃ s2 c2,e=.returned (.slice s2 (m - k) c2)/\Ch B (w'.setCell ⟨p,1,none⟩ (.slice s2 (m - k) c2)) p (.slice s2 (m - k) c2) ((dl 0 ys).drop k) /\
    Buts (p :: (Value.slice sp m cap).ownBlock.toList) W1 (w'.setCell ⟨p,1,none⟩ (.slice s2 (m - k) c2))/\(Value.slice s2 (m - k) c2).ownBlock=(Value.slice sp m cap).ownBlock/\w'.cell? ⟨p,1,none⟩=some (.slice sp m cap)/\w'.frozen? ⟨p,1,none⟩=false/\Buts (Value.slice sp m cap).ownBlock.toList W1 w'):=HI
  obtain⟨hz1,hz2⟩:=HR.out k hkm hlow hhigh
  have cq:=hbu.cell
  have ct:=(hB1.cell (p:=⟨t,0,none⟩) htq).trans HBX.out.cell
  have cp:=(hB1.cell (p:=⟨p,1,none⟩) hpl).trans HLK.out
  have HROW:Hid (W1.ownsRow q 3 1 (.slice us k uc) k (num (((List.finRange m).take k).map f))):=hrow
  have HBU:Hid (Boxed W1 q 111 (.slice us k uc)):=hbu
  have HB1:Hid (Below q Wb W1):=hB1
  have HDF:Hid (W1.heap[D]?=some (.deferred (some []))):=hdef
  have HCH:Hid (Ch B W1 p v (dl 0 ys)):=hch
  have HZ1:=(show Hid _ from hz1)
  have HZ2:Hid ((dl 0 ys).drop k=dl 0 ((xs.filter (fun y=>decide (y.2≠1))).map dec)):=hz2
  have HNIL:Hid (Value.slice us k uc=.slice none 0 0↔k=0):=hnil
  have HKT:Hid (∀ w2,Buts (Value.slice sp m cap).ownBlock.toList W1 w2->w2.cell? ⟨t,0,none⟩=some (.pointer (some ⟨p,1,none⟩))):=fun w2 hb2=>by
   have hbt:Boxed W1 t 213 (.pointer (some ⟨p,1,none⟩)):=(hB1.block t htq).trans HBX.out
   rw [World.cell?_of_block (a:=⟨t,0,none⟩) (hb2.block t hbt.lt (fun hm=>by
    obtain⟨cur,hc⟩:=hch.own.kind (g:=t) (by rw [HV.out];simpa using hm)
    rw [show W1.heap[t]?=_ from hbt] at hc
    simp at hc))]
   exact hbt.cell
  clear hK2 hlow hhigh hbu hrow hnil hB1 hdef hch hdl HI hz1 hz2 hsp b0 b1 hsz hlk0 hcs0 hB0 HR HF HFB HCS1 HCS2 hF0
  gi_wp2
  rename_i K3 hK3
  have key3:∀ (s2:Option Addr) (c2:Nat) (w2:World),Ch B (w2.setCell ⟨p,1,none⟩ (.slice s2 (m - k) c2)) p (.slice s2 (m - k) c2) ((dl 0 ys).drop k)->Buts (p :: (Value.slice sp m cap).ownBlock.toList) W1 (w2.setCell ⟨p,1,none⟩ (.slice s2 (m - k) c2))->(Value.slice s2 (m - k) c2).ownBlock=(Value.slice sp m cap).ownBlock->Buts (Value.slice sp m cap).ownBlock.toList W1 w2->K3 { tmps:=#[.pointer (some ⟨p,1,none⟩),.pointer (some ⟨t,0,none⟩),.slice none 0 0,.pointer (some ⟨q,0,none⟩),undef,undef,.pointer (some ⟨p,1,none⟩),.tuple #[],.pointer (some ⟨p,1,none⟩),.func (.func 170) #[] #[.pointer (some ⟨WS,0,none⟩)],undef,undef,undef,undef,undef,undef,undef,undef,undef,undef,undef,undef,undef,undef,undef,.pointer (some ⟨p,1,none⟩),.pointer (some ⟨p,1,none⟩),.pointer (some ⟨p,1,none⟩),.pointer (some ⟨p,1,none⟩),.slice sp m cap,.slice us k uc,.int .i64 (k:Int),.slice s2 (m - k) c2,.pointer (some ⟨p,1,none⟩),.pointer (some ⟨p,1,none⟩),undef],defers:=[{ target:=.collected D,args:=#[] }] } (w2.setCell ⟨p,1,none⟩ (.slice s2 (m - k) c2)):=by
   intro s2 c2 w2 hc2 hb2 hob hb1
   refine hK3 _ _ ?_
   refine wpIn_wide.2 ?_
   rw [←HV.out] at hb2 hob
   have hqp:q ∉ p :: v.ownBlock.toList:=by
    intro hm
    rcases List.mem_cons.1 hm with e | e
    ·omega
    ·obtain⟨cur,hc⟩:=HCH.out.own.kind (g:=q) (by simpa using e)
     have:=HBU.out
     unfold Boxed at this
     rw [hc] at this
     simp at this
   have hDp:D ∉ p :: v.ownBlock.toList:=by
    intro hm
    rcases List.mem_cons.1 hm with e | e
    ·have:=HDF.out;rw [e,HCH.out.head] at this;cases this
    ·obtain⟨cur,hc⟩:=HCH.out.own.kind (g:=D) (by simpa using e)
     have:=HDF.out;rw [hc] at this;cases this
   have hbq:Boxed (w2.setCell ⟨p,1,none⟩ (.slice s2 (m - k) c2)) q 111 (.slice us k uc):=(hb2.block q HBU.out.lt hqp).trans HBU.out
   have hD2:(w2.setCell ⟨p,1,none⟩ (.slice s2 (m - k) c2)).heap[D]?=some (.deferred (some [])):=(hb2.block D (at_lt HDF.out) hDp).trans HDF.out
   have hrow2:(w2.setCell ⟨p,1,none⟩ (.slice s2 (m - k) c2)).ownsRow q 3 1 (.slice us k uc) k (num (((List.finRange m).take k).map f)):=owns_buts HROW.out hb2 (fun b hb hm=>by
    have hbl:=HROW.out.lt b hb
    rcases List.mem_cons.1 hm with e | e
    ·omega
    ·exact own_ne HROW.out hb HCH.out.own (by simpa using e) (by decide) rfl)
   have hsz1:=HBW.out.size
   have hbw:Buts (p :: v.ownBlock.toList) w (w2.setCell ⟨p,1,none⟩ (.slice s2 (m - k) c2)):=by
    have h1:=HBW.out
    have h2:=HB1.out
    have h3:=h2.size
    have h4:=HQ.out
    refine⟨(hb2.os.trans h2.os).trans h1.os,(hb2.tape.trans h2.tape).trans h1.tape,(hb2.output.trans h2.output).trans h1.output,by have:=hb2.size;omega,fun b hb hbl=>?_⟩
    rw [hb2.block b (by omega) hbl,h2.block b (by omega)]
    exact h1.block b hb (fun h=>hbl (List.mem_cons_of_mem _ h))
   have HNX:Hid (Nx B w (w2.setCell ⟨p,1,none⟩ (.slice s2 (m - k) c2)) p v (dl 0 ((xs.filter (fun y=>decide (y.2≠1))).map dec))):=⟨_,by rw [←HZ2.out];exact hc2,hbw,fun b hb=>Or.inl (hob ▸ hb)⟩
   have HRW:=(show Hid _ from hrow2)
   have HD2:=(show Hid _ from hD2)
   have cq2:=hbq.cell
   clear hc2 hb2 hob hb1 hqp hDp hbq hD2 hrow2 hbw hK3 cq ct cp
   generalize w2.setCell ⟨p,1,none⟩ (.slice s2 (m - k) c2)=w22 at *
   go_wp2
   refine⟨by simp,.inl ⟨_,_,rfl,run_takeDeferred HD2.out,?_⟩⟩
   have hlk:(((List.finRange m).take k).map f).length=k:=by rw [List.length_map,fin_len hkm]
   refine⟨_,results_tmp rfl _ _ _,.slice us k uc,rfl,?_,?_,Nx.putObjT HNX.out HD2.out (by have:=HT.out;have:=HQ.out;omega)⟩
   ·rw [HZ1.out,hlk]
    exact owns_base (ownsRow_putObj HRW.out _ HD2.out rfl) (by have:=HT.out;omega)
   ·rw [HZ1.out]
    exact HNIL.out.trans ⟨fun h=>List.eq_nil_of_length_eq_zero (by rw [hlk];exact h),fun h=>by rw [h] at hlk;simpa using hlk.symm⟩
  clear hK3 HZ1 HZ2 HNIL HCH HDF HB1 HBU HROW HLK HFF HM HV HBX HC HBW HH HT HQ
  refine wpIn_mono (Q:=fun e a w=>match e with | .normal=>K3 a w | _=>False) ?_ (fun e a w h=>by cases e <;> first | exact h | exact h.elim)
  refine wpIn_region_any hmx ?_
  try (change wpAnyIn _ _ _ _ _ _ _ _ _ (World.drew _))
  refine wpAnyIn_ready (rs:=[0,1,5]) (by kernel_rfl) (by simp) ?_
  refine AllReadyIn.cons rfl (fun K hK=>?_) ?_
  ·go_simp
   refine hK _ _ ?_
   clear hK K
   refine wpAnyIn_ready (rs:=[1,5]) (by kernel_rfl) (by simp) ?_
   refine AllReadyIn.cons rfl (fun K hK=>?_) ?_
   ·go_simp
    refine hK _ _ ?_
    clear hK K
    refine wpAnyIn_take (i:=2) (v:=?vd1) rfl rfl (by kernel_rfl) (by kernel_rfl) (by kernel_rfl) (fun _ _ _ h=>h) ⟨Or.inl ⟨by rfl,?hyd1⟩,fun _=>rfl⟩ ?restd1
    case hyd1=>(intro w;go_simp;try with_reducible rfl)
    refine wpAnyIn_take (i:=3) (v:=?vd2) rfl rfl (by kernel_rfl) (by kernel_rfl) (by kernel_rfl) (fun _ _ _ h=>h) ⟨Or.inl ⟨by rfl,?hyd2⟩,fun _=>rfl⟩ ?restd2
    case hyd2=>(intro w;go_simp;try with_reducible rfl)
    refine wpAnyIn_ready (rs:=[4,5]) (by kernel_rfl) (by simp) ?_
    refine AllReadyIn.cons rfl (fun K hK=>?_) ?_
    ·go_simp
     refine hK _ _ ?_
     clear hK K
     refine wpAnyIn_ready (rs:=[5]) (by kernel_rfl) (by simp) ?_
     refine AllReadyIn.cons rfl (fun K hK=>?_) AllReadyIn.nil
     go_simp
     refine hK _ _ ?_
     clear hK K
     refine wpAnyIn_take (i:=6) (v:=?vd3) rfl rfl (by kernel_rfl) (by kernel_rfl) (by kernel_rfl) (fun _ _ _ h=>h) ⟨Or.inl ⟨by rfl,?hyd3⟩,fun _=>rfl⟩ ?restd3
     case hyd3=>(intro w;go_simp;try with_reducible rfl)
     refine wpAnyIn_ready (rs:=[7]) (by kernel_rfl) (by simp) ?_
     refine AllReadyIn.cons rfl (fun K hK=>?_) AllReadyIn.nil
     gi_wp2_with (refine⟨trivial,?_⟩;gi_at_call 130;refine(callsIn_wide.2 HI'.out).mono ?_;rintro e w2 ⟨s2,c2,rfl,hc2,hb2,hob,k1,k2,hb1⟩;have HK3:Hid (K3 { tmps:=#[.pointer (some ⟨p,1,none⟩),.pointer (some ⟨t,0,none⟩),.slice none 0 0,.pointer (some ⟨q,0,none⟩),undef,undef,.pointer (some ⟨p,1,none⟩),.tuple #[],.pointer (some ⟨p,1,none⟩),.func (.func 170) #[] #[.pointer (some ⟨WS,0,none⟩)],undef,undef,undef,undef,undef,undef,undef,undef,undef,undef,undef,undef,undef,undef,undef,.pointer (some ⟨p,1,none⟩),.pointer (some ⟨p,1,none⟩),.pointer (some ⟨p,1,none⟩),.pointer (some ⟨p,1,none⟩),.slice sp m cap,.slice us k uc,.int .i64 (k:Int),.slice s2 (m - k) c2,.pointer (some ⟨p,1,none⟩),.pointer (some ⟨p,1,none⟩),undef],defers:=[{ target:=.collected D,args:=#[] }] } (w2.setCell ⟨p,1,none⟩ (.slice s2 (m - k) c2))):=key3 s2 c2 w2 hc2 hb2 hob hb1;have k3:=HKT.out w2 hb1;clear hc2 hb2 hob hb1)
     refine wpAnyIn_take (i:=8) (v:=?vd4) rfl rfl (by kernel_rfl) (by kernel_rfl) (by kernel_rfl) (fun _ _ _ h=>h) ⟨Or.inl ⟨by rfl,?hyd4⟩,fun _=>rfl⟩ ?restd4
     case hyd4=>(intro w;go_simp;try with_reducible rfl)
     refine wpAnyIn_take (i:=9) (v:=?vd5) rfl rfl (by kernel_rfl) (by kernel_rfl) (by kernel_rfl) (fun _ _ _ h=>h) ⟨Or.inl ⟨by rfl,?hyd5⟩,fun _=>rfl⟩ ?restd5
     case hyd5=>(intro w;go_simp;try with_reducible rfl)
     refine wpAnyIn_ready (rs:=[10]) (by kernel_rfl) (by simp) ?_
     refine AllReadyIn.cons rfl (fun K hK=>?_) AllReadyIn.nil
     go_simp
     refine hK _ _ ?_
     clear hK K
     refine wpAnyIn_done (by kernel_rfl) ?_ _
     exact HK3.out
    refine AllReadyIn.cons rfl (fun K hK=>?_) AllReadyIn.nil
    go_simp
    refine hK _ _ ?_
    clear hK K
    refine wpAnyIn_take (i:=6) (v:=?vd6) rfl rfl (by kernel_rfl) (by kernel_rfl) (by kernel_rfl) (fun _ _ _ h=>h) ⟨Or.inl ⟨by rfl,?hyd6⟩,fun _=>rfl⟩ ?restd6
    case hyd6=>(intro w;go_simp;try with_reducible rfl)
    refine wpAnyIn_ready (rs:=[4]) (by kernel_rfl) (by simp) ?_
    refine AllReadyIn.cons rfl (fun K hK=>?_) AllReadyIn.nil
    go_simp
    refine hK _ _ ?_
    clear hK K
    refine wpAnyIn_ready (rs:=[7]) (by kernel_rfl) (by simp) ?_
    refine AllReadyIn.cons rfl (fun K hK=>?_) AllReadyIn.nil
    gi_wp2_with (refine⟨trivial,?_⟩;gi_at_call 130;refine(callsIn_wide.2 HI'.out).mono ?_;rintro e w2 ⟨s2,c2,rfl,hc2,hb2,hob,k1,k2,hb1⟩;have HK3:Hid (K3 { tmps:=#[.pointer (some ⟨p,1,none⟩),.pointer (some ⟨t,0,none⟩),.slice none 0 0,.pointer (some ⟨q,0,none⟩),undef,undef,.pointer (some ⟨p,1,none⟩),.tuple #[],.pointer (some ⟨p,1,none⟩),.func (.func 170) #[] #[.pointer (some ⟨WS,0,none⟩)],undef,undef,undef,undef,undef,undef,undef,undef,undef,undef,undef,undef,undef,undef,undef,.pointer (some ⟨p,1,none⟩),.pointer (some ⟨p,1,none⟩),.pointer (some ⟨p,1,none⟩),.pointer (some ⟨p,1,none⟩),.slice sp m cap,.slice us k uc,.int .i64 (k:Int),.slice s2 (m - k) c2,.pointer (some ⟨p,1,none⟩),.pointer (some ⟨p,1,none⟩),undef],defers:=[{ target:=.collected D,args:=#[] }] } (w2.setCell ⟨p,1,none⟩ (.slice s2 (m - k) c2))):=key3 s2 c2 w2 hc2 hb2 hob hb1;have k3:=HKT.out w2 hb1;clear hc2 hb2 hob hb1)
    refine wpAnyIn_take (i:=8) (v:=?vd7) rfl rfl (by kernel_rfl) (by kernel_rfl) (by kernel_rfl) (fun _ _ _ h=>h) ⟨Or.inl ⟨by rfl,?hyd7⟩,fun _=>rfl⟩ ?restd7
    case hyd7=>(intro w;go_simp;try with_reducible rfl)
    refine wpAnyIn_take (i:=9) (v:=?vd8) rfl rfl (by kernel_rfl) (by kernel_rfl) (by kernel_rfl) (fun _ _ _ h=>h) ⟨Or.inl ⟨by rfl,?hyd8⟩,fun _=>rfl⟩ ?restd8
    case hyd8=>(intro w;go_simp;try with_reducible rfl)
    refine wpAnyIn_ready (rs:=[10]) (by kernel_rfl) (by simp) ?_
    refine AllReadyIn.cons rfl (fun K hK=>?_) AllReadyIn.nil
    go_simp
    refine hK _ _ ?_
    clear hK K
    refine wpAnyIn_done (by kernel_rfl) ?_ _
    exact HK3.out
   refine AllReadyIn.cons rfl (fun K hK=>?_) AllReadyIn.nil
   go_simp
   refine hK _ _ ?_
   clear hK K
   refine wpAnyIn_take (i:=6) (v:=?vd9) rfl rfl (by kernel_rfl) (by kernel_rfl) (by kernel_rfl) (fun _ _ _ h=>h) ⟨Or.inl ⟨by rfl,?hyd9⟩,fun _=>rfl⟩ ?restd9
   case hyd9=>(intro w;go_simp;try with_reducible rfl)
   refine wpAnyIn_ready (rs:=[1]) (by kernel_rfl) (by simp) ?_
   refine AllReadyIn.cons rfl (fun K hK=>?_) AllReadyIn.nil
   go_simp
   refine hK _ _ ?_
   clear hK K
   refine wpAnyIn_take (i:=2) (v:=?vd10) rfl rfl (by kernel_rfl) (by kernel_rfl) (by kernel_rfl) (fun _ _ _ h=>h) ⟨Or.inl ⟨by rfl,?hyd10⟩,fun _=>rfl⟩ ?restd10
   case hyd10=>(intro w;go_simp;try with_reducible rfl)
   refine wpAnyIn_take (i:=3) (v:=?vd11) rfl rfl (by kernel_rfl) (by kernel_rfl) (by kernel_rfl) (fun _ _ _ h=>h) ⟨Or.inl ⟨by rfl,?hyd11⟩,fun _=>rfl⟩ ?restd11
   case hyd11=>(intro w;go_simp;try with_reducible rfl)
   refine wpAnyIn_ready (rs:=[4]) (by kernel_rfl) (by simp) ?_
   refine AllReadyIn.cons rfl (fun K hK=>?_) AllReadyIn.nil
   go_simp
   refine hK _ _ ?_
   clear hK K
   refine wpAnyIn_ready (rs:=[7]) (by kernel_rfl) (by simp) ?_
   refine AllReadyIn.cons rfl (fun K hK=>?_) AllReadyIn.nil
   gi_wp2_with (refine⟨trivial,?_⟩;gi_at_call 130;refine(callsIn_wide.2 HI'.out).mono ?_;rintro e w2 ⟨s2,c2,rfl,hc2,hb2,hob,k1,k2,hb1⟩;have HK3:Hid (K3 { tmps:=#[.pointer (some ⟨p,1,none⟩),.pointer (some ⟨t,0,none⟩),.slice none 0 0,.pointer (some ⟨q,0,none⟩),undef,undef,.pointer (some ⟨p,1,none⟩),.tuple #[],.pointer (some ⟨p,1,none⟩),.func (.func 170) #[] #[.pointer (some ⟨WS,0,none⟩)],undef,undef,undef,undef,undef,undef,undef,undef,undef,undef,undef,undef,undef,undef,undef,.pointer (some ⟨p,1,none⟩),.pointer (some ⟨p,1,none⟩),.pointer (some ⟨p,1,none⟩),.pointer (some ⟨p,1,none⟩),.slice sp m cap,.slice us k uc,.int .i64 (k:Int),.slice s2 (m - k) c2,.pointer (some ⟨p,1,none⟩),.pointer (some ⟨p,1,none⟩),undef],defers:=[{ target:=.collected D,args:=#[] }] } (w2.setCell ⟨p,1,none⟩ (.slice s2 (m - k) c2))):=key3 s2 c2 w2 hc2 hb2 hob hb1;have k3:=HKT.out w2 hb1;clear hc2 hb2 hob hb1)
   refine wpAnyIn_take (i:=8) (v:=?vd12) rfl rfl (by kernel_rfl) (by kernel_rfl) (by kernel_rfl) (fun _ _ _ h=>h) ⟨Or.inl ⟨by rfl,?hyd12⟩,fun _=>rfl⟩ ?restd12
   case hyd12=>(intro w;go_simp;try with_reducible rfl)
   refine wpAnyIn_take (i:=9) (v:=?vd13) rfl rfl (by kernel_rfl) (by kernel_rfl) (by kernel_rfl) (fun _ _ _ h=>h) ⟨Or.inl ⟨by rfl,?hyd13⟩,fun _=>rfl⟩ ?restd13
   case hyd13=>(intro w;go_simp;try with_reducible rfl)
   refine wpAnyIn_ready (rs:=[10]) (by kernel_rfl) (by simp) ?_
   refine AllReadyIn.cons rfl (fun K hK=>?_) AllReadyIn.nil
   go_simp
   refine hK _ _ ?_
   clear hK K
   refine wpAnyIn_done (by kernel_rfl) ?_ _
   exact HK3.out
  refine AllReadyIn.cons rfl (fun K hK=>?_) ?_
  ·go_simp
   refine hK _ _ ?_
   clear hK K
   refine wpAnyIn_take (i:=2) (v:=?vd14) rfl rfl (by kernel_rfl) (by kernel_rfl) (by kernel_rfl) (fun _ _ _ h=>h) ⟨Or.inl ⟨by rfl,?hyd14⟩,fun _=>rfl⟩ ?restd14
   case hyd14=>(intro w;go_simp;try with_reducible rfl)
   refine wpAnyIn_take (i:=3) (v:=?vd15) rfl rfl (by kernel_rfl) (by kernel_rfl) (by kernel_rfl) (fun _ _ _ h=>h) ⟨Or.inl ⟨by rfl,?hyd15⟩,fun _=>rfl⟩ ?restd15
   case hyd15=>(intro w;go_simp;try with_reducible rfl)
   refine wpAnyIn_ready (rs:=[0,4,5]) (by kernel_rfl) (by simp) ?_
   refine AllReadyIn.cons rfl (fun K hK=>?_) ?_
   ·go_simp
    refine hK _ _ ?_
    clear hK K
    refine wpAnyIn_ready (rs:=[4,5]) (by kernel_rfl) (by simp) ?_
    refine AllReadyIn.cons rfl (fun K hK=>?_) ?_
    ·go_simp
     refine hK _ _ ?_
     clear hK K
     refine wpAnyIn_ready (rs:=[5]) (by kernel_rfl) (by simp) ?_
     refine AllReadyIn.cons rfl (fun K hK=>?_) AllReadyIn.nil
     go_simp
     refine hK _ _ ?_
     clear hK K
     refine wpAnyIn_take (i:=6) (v:=?vd16) rfl rfl (by kernel_rfl) (by kernel_rfl) (by kernel_rfl) (fun _ _ _ h=>h) ⟨Or.inl ⟨by rfl,?hyd16⟩,fun _=>rfl⟩ ?restd16
     case hyd16=>(intro w;go_simp;try with_reducible rfl)
     refine wpAnyIn_ready (rs:=[7]) (by kernel_rfl) (by simp) ?_
     refine AllReadyIn.cons rfl (fun K hK=>?_) AllReadyIn.nil
     gi_wp2_with (refine⟨trivial,?_⟩;gi_at_call 130;refine(callsIn_wide.2 HI'.out).mono ?_;rintro e w2 ⟨s2,c2,rfl,hc2,hb2,hob,k1,k2,hb1⟩;have HK3:Hid (K3 { tmps:=#[.pointer (some ⟨p,1,none⟩),.pointer (some ⟨t,0,none⟩),.slice none 0 0,.pointer (some ⟨q,0,none⟩),undef,undef,.pointer (some ⟨p,1,none⟩),.tuple #[],.pointer (some ⟨p,1,none⟩),.func (.func 170) #[] #[.pointer (some ⟨WS,0,none⟩)],undef,undef,undef,undef,undef,undef,undef,undef,undef,undef,undef,undef,undef,undef,undef,.pointer (some ⟨p,1,none⟩),.pointer (some ⟨p,1,none⟩),.pointer (some ⟨p,1,none⟩),.pointer (some ⟨p,1,none⟩),.slice sp m cap,.slice us k uc,.int .i64 (k:Int),.slice s2 (m - k) c2,.pointer (some ⟨p,1,none⟩),.pointer (some ⟨p,1,none⟩),undef],defers:=[{ target:=.collected D,args:=#[] }] } (w2.setCell ⟨p,1,none⟩ (.slice s2 (m - k) c2))):=key3 s2 c2 w2 hc2 hb2 hob hb1;have k3:=HKT.out w2 hb1;clear hc2 hb2 hob hb1)
     refine wpAnyIn_take (i:=8) (v:=?vd17) rfl rfl (by kernel_rfl) (by kernel_rfl) (by kernel_rfl) (fun _ _ _ h=>h) ⟨Or.inl ⟨by rfl,?hyd17⟩,fun _=>rfl⟩ ?restd17
     case hyd17=>(intro w;go_simp;try with_reducible rfl)
     refine wpAnyIn_take (i:=9) (v:=?vd18) rfl rfl (by kernel_rfl) (by kernel_rfl) (by kernel_rfl) (fun _ _ _ h=>h) ⟨Or.inl ⟨by rfl,?hyd18⟩,fun _=>rfl⟩ ?restd18
     case hyd18=>(intro w;go_simp;try with_reducible rfl)
     refine wpAnyIn_ready (rs:=[10]) (by kernel_rfl) (by simp) ?_
     refine AllReadyIn.cons rfl (fun K hK=>?_) AllReadyIn.nil
     go_simp
     refine hK _ _ ?_
     clear hK K
     refine wpAnyIn_done (by kernel_rfl) ?_ _
     exact HK3.out
    refine AllReadyIn.cons rfl (fun K hK=>?_) AllReadyIn.nil
    go_simp
    refine hK _ _ ?_
    clear hK K
    refine wpAnyIn_take (i:=6) (v:=?vd19) rfl rfl (by kernel_rfl) (by kernel_rfl) (by kernel_rfl) (fun _ _ _ h=>h) ⟨Or.inl ⟨by rfl,?hyd19⟩,fun _=>rfl⟩ ?restd19
    case hyd19=>(intro w;go_simp;try with_reducible rfl)
    refine wpAnyIn_ready (rs:=[4]) (by kernel_rfl) (by simp) ?_
    refine AllReadyIn.cons rfl (fun K hK=>?_) AllReadyIn.nil
    go_simp
    refine hK _ _ ?_
    clear hK K
    refine wpAnyIn_ready (rs:=[7]) (by kernel_rfl) (by simp) ?_
    refine AllReadyIn.cons rfl (fun K hK=>?_) AllReadyIn.nil
    gi_wp2_with (refine⟨trivial,?_⟩;gi_at_call 130;refine(callsIn_wide.2 HI'.out).mono ?_;rintro e w2 ⟨s2,c2,rfl,hc2,hb2,hob,k1,k2,hb1⟩;have HK3:Hid (K3 { tmps:=#[.pointer (some ⟨p,1,none⟩),.pointer (some ⟨t,0,none⟩),.slice none 0 0,.pointer (some ⟨q,0,none⟩),undef,undef,.pointer (some ⟨p,1,none⟩),.tuple #[],.pointer (some ⟨p,1,none⟩),.func (.func 170) #[] #[.pointer (some ⟨WS,0,none⟩)],undef,undef,undef,undef,undef,undef,undef,undef,undef,undef,undef,undef,undef,undef,undef,.pointer (some ⟨p,1,none⟩),.pointer (some ⟨p,1,none⟩),.pointer (some ⟨p,1,none⟩),.pointer (some ⟨p,1,none⟩),.slice sp m cap,.slice us k uc,.int .i64 (k:Int),.slice s2 (m - k) c2,.pointer (some ⟨p,1,none⟩),.pointer (some ⟨p,1,none⟩),undef],defers:=[{ target:=.collected D,args:=#[] }] } (w2.setCell ⟨p,1,none⟩ (.slice s2 (m - k) c2))):=key3 s2 c2 w2 hc2 hb2 hob hb1;have k3:=HKT.out w2 hb1;clear hc2 hb2 hob hb1)
    refine wpAnyIn_take (i:=8) (v:=?vd20) rfl rfl (by kernel_rfl) (by kernel_rfl) (by kernel_rfl) (fun _ _ _ h=>h) ⟨Or.inl ⟨by rfl,?hyd20⟩,fun _=>rfl⟩ ?restd20
    case hyd20=>(intro w;go_simp;try with_reducible rfl)
    refine wpAnyIn_take (i:=9) (v:=?vd21) rfl rfl (by kernel_rfl) (by kernel_rfl) (by kernel_rfl) (fun _ _ _ h=>h) ⟨Or.inl ⟨by rfl,?hyd21⟩,fun _=>rfl⟩ ?restd21
    case hyd21=>(intro w;go_simp;try with_reducible rfl)
    refine wpAnyIn_ready (rs:=[10]) (by kernel_rfl) (by simp) ?_
    refine AllReadyIn.cons rfl (fun K hK=>?_) AllReadyIn.nil
    go_simp
    refine hK _ _ ?_
    clear hK K
    refine wpAnyIn_done (by kernel_rfl) ?_ _
    exact HK3.out
   refine AllReadyIn.cons rfl (fun K hK=>?_) ?_
   ·go_simp
    refine hK _ _ ?_
    clear hK K
    refine wpAnyIn_ready (rs:=[0,5]) (by kernel_rfl) (by simp) ?_
    refine AllReadyIn.cons rfl (fun K hK=>?_) ?_
    ·go_simp
     refine hK _ _ ?_
     clear hK K
     refine wpAnyIn_ready (rs:=[5]) (by kernel_rfl) (by simp) ?_
     refine AllReadyIn.cons rfl (fun K hK=>?_) AllReadyIn.nil
     go_simp
     refine hK _ _ ?_
     clear hK K
     refine wpAnyIn_take (i:=6) (v:=?vd22) rfl rfl (by kernel_rfl) (by kernel_rfl) (by kernel_rfl) (fun _ _ _ h=>h) ⟨Or.inl ⟨by rfl,?hyd22⟩,fun _=>rfl⟩ ?restd22
     case hyd22=>(intro w;go_simp;try with_reducible rfl)
     refine wpAnyIn_ready (rs:=[7]) (by kernel_rfl) (by simp) ?_
     refine AllReadyIn.cons rfl (fun K hK=>?_) AllReadyIn.nil
     gi_wp2_with (refine⟨trivial,?_⟩;gi_at_call 130;refine(callsIn_wide.2 HI'.out).mono ?_;rintro e w2 ⟨s2,c2,rfl,hc2,hb2,hob,k1,k2,hb1⟩;have HK3:Hid (K3 { tmps:=#[.pointer (some ⟨p,1,none⟩),.pointer (some ⟨t,0,none⟩),.slice none 0 0,.pointer (some ⟨q,0,none⟩),undef,undef,.pointer (some ⟨p,1,none⟩),.tuple #[],.pointer (some ⟨p,1,none⟩),.func (.func 170) #[] #[.pointer (some ⟨WS,0,none⟩)],undef,undef,undef,undef,undef,undef,undef,undef,undef,undef,undef,undef,undef,undef,undef,.pointer (some ⟨p,1,none⟩),.pointer (some ⟨p,1,none⟩),.pointer (some ⟨p,1,none⟩),.pointer (some ⟨p,1,none⟩),.slice sp m cap,.slice us k uc,.int .i64 (k:Int),.slice s2 (m - k) c2,.pointer (some ⟨p,1,none⟩),.pointer (some ⟨p,1,none⟩),undef],defers:=[{ target:=.collected D,args:=#[] }] } (w2.setCell ⟨p,1,none⟩ (.slice s2 (m - k) c2))):=key3 s2 c2 w2 hc2 hb2 hob hb1;have k3:=HKT.out w2 hb1;clear hc2 hb2 hob hb1)
     refine wpAnyIn_take (i:=8) (v:=?vd23) rfl rfl (by kernel_rfl) (by kernel_rfl) (by kernel_rfl) (fun _ _ _ h=>h) ⟨Or.inl ⟨by rfl,?hyd23⟩,fun _=>rfl⟩ ?restd23
     case hyd23=>(intro w;go_simp;try with_reducible rfl)
     refine wpAnyIn_take (i:=9) (v:=?vd24) rfl rfl (by kernel_rfl) (by kernel_rfl) (by kernel_rfl) (fun _ _ _ h=>h) ⟨Or.inl ⟨by rfl,?hyd24⟩,fun _=>rfl⟩ ?restd24
     case hyd24=>(intro w;go_simp;try with_reducible rfl)
     refine wpAnyIn_ready (rs:=[10]) (by kernel_rfl) (by simp) ?_
     refine AllReadyIn.cons rfl (fun K hK=>?_) AllReadyIn.nil
     go_simp
     refine hK _ _ ?_
     clear hK K
     refine wpAnyIn_done (by kernel_rfl) ?_ _
     exact HK3.out
    refine AllReadyIn.cons rfl (fun K hK=>?_) AllReadyIn.nil
    go_simp
    refine hK _ _ ?_
    clear hK K
    refine wpAnyIn_take (i:=6) (v:=?vd25) rfl rfl (by kernel_rfl) (by kernel_rfl) (by kernel_rfl) (fun _ _ _ h=>h) ⟨Or.inl ⟨by rfl,?hyd25⟩,fun _=>rfl⟩ ?restd25
    case hyd25=>(intro w;go_simp;try with_reducible rfl)
    refine wpAnyIn_ready (rs:=[0,7]) (by kernel_rfl) (by simp) ?_
    refine AllReadyIn.cons rfl (fun K hK=>?_) ?_
    ·go_simp
     refine hK _ _ ?_
     clear hK K
     refine wpAnyIn_ready (rs:=[7]) (by kernel_rfl) (by simp) ?_
     refine AllReadyIn.cons rfl (fun K hK=>?_) AllReadyIn.nil
     gi_wp2_with (refine⟨trivial,?_⟩;gi_at_call 130;refine(callsIn_wide.2 HI'.out).mono ?_;rintro e w2 ⟨s2,c2,rfl,hc2,hb2,hob,k1,k2,hb1⟩;have HK3:Hid (K3 { tmps:=#[.pointer (some ⟨p,1,none⟩),.pointer (some ⟨t,0,none⟩),.slice none 0 0,.pointer (some ⟨q,0,none⟩),undef,undef,.pointer (some ⟨p,1,none⟩),.tuple #[],.pointer (some ⟨p,1,none⟩),.func (.func 170) #[] #[.pointer (some ⟨WS,0,none⟩)],undef,undef,undef,undef,undef,undef,undef,undef,undef,undef,undef,undef,undef,undef,undef,.pointer (some ⟨p,1,none⟩),.pointer (some ⟨p,1,none⟩),.pointer (some ⟨p,1,none⟩),.pointer (some ⟨p,1,none⟩),.slice sp m cap,.slice us k uc,.int .i64 (k:Int),.slice s2 (m - k) c2,.pointer (some ⟨p,1,none⟩),.pointer (some ⟨p,1,none⟩),undef],defers:=[{ target:=.collected D,args:=#[] }] } (w2.setCell ⟨p,1,none⟩ (.slice s2 (m - k) c2))):=key3 s2 c2 w2 hc2 hb2 hob hb1;have k3:=HKT.out w2 hb1;clear hc2 hb2 hob hb1)
     refine wpAnyIn_take (i:=8) (v:=?vd26) rfl rfl (by kernel_rfl) (by kernel_rfl) (by kernel_rfl) (fun _ _ _ h=>h) ⟨Or.inl ⟨by rfl,?hyd26⟩,fun _=>rfl⟩ ?restd26
     case hyd26=>(intro w;go_simp;try with_reducible rfl)
     refine wpAnyIn_take (i:=9) (v:=?vd27) rfl rfl (by kernel_rfl) (by kernel_rfl) (by kernel_rfl) (fun _ _ _ h=>h) ⟨Or.inl ⟨by rfl,?hyd27⟩,fun _=>rfl⟩ ?restd27
     case hyd27=>(intro w;go_simp;try with_reducible rfl)
     refine wpAnyIn_ready (rs:=[10]) (by kernel_rfl) (by simp) ?_
     refine AllReadyIn.cons rfl (fun K hK=>?_) AllReadyIn.nil
     go_simp
     refine hK _ _ ?_
     clear hK K
     refine wpAnyIn_done (by kernel_rfl) ?_ _
     exact HK3.out
    refine AllReadyIn.cons rfl (fun K hK=>?_) AllReadyIn.nil
    gi_wp2_with (refine⟨trivial,?_⟩;gi_at_call 130;refine(callsIn_wide.2 HI'.out).mono ?_;rintro e w2 ⟨s2,c2,rfl,hc2,hb2,hob,k1,k2,hb1⟩;have HK3:Hid (K3 { tmps:=#[.pointer (some ⟨p,1,none⟩),.pointer (some ⟨t,0,none⟩),.slice none 0 0,.pointer (some ⟨q,0,none⟩),undef,undef,.pointer (some ⟨p,1,none⟩),.tuple #[],.pointer (some ⟨p,1,none⟩),.func (.func 170) #[] #[.pointer (some ⟨WS,0,none⟩)],undef,undef,undef,undef,undef,undef,undef,undef,undef,undef,undef,undef,undef,undef,undef,.pointer (some ⟨p,1,none⟩),.pointer (some ⟨p,1,none⟩),.pointer (some ⟨p,1,none⟩),.pointer (some ⟨p,1,none⟩),.slice sp m cap,.slice us k uc,.int .i64 (k:Int),.slice s2 (m - k) c2,.pointer (some ⟨p,1,none⟩),.pointer (some ⟨p,1,none⟩),undef],defers:=[{ target:=.collected D,args:=#[] }] } (w2.setCell ⟨p,1,none⟩ (.slice s2 (m - k) c2))):=key3 s2 c2 w2 hc2 hb2 hob hb1;have k3:=HKT.out w2 hb1;clear hc2 hb2 hob hb1)
    refine wpAnyIn_ready (rs:=[0]) (by kernel_rfl) (by simp) ?_
    refine AllReadyIn.cons rfl (fun K hK=>?_) AllReadyIn.nil
    go_simp
    refine hK _ _ ?_
    clear hK K
    refine wpAnyIn_take (i:=8) (v:=?vd28) rfl rfl (by kernel_rfl) (by kernel_rfl) (by kernel_rfl) (fun _ _ _ h=>h) ⟨Or.inl ⟨by rfl,?hyd28⟩,fun _=>rfl⟩ ?restd28
    case hyd28=>(intro w;go_simp;try with_reducible rfl)
    refine wpAnyIn_take (i:=9) (v:=?vd29) rfl rfl (by kernel_rfl) (by kernel_rfl) (by kernel_rfl) (fun _ _ _ h=>h) ⟨Or.inl ⟨by rfl,?hyd29⟩,fun _=>rfl⟩ ?restd29
    case hyd29=>(intro w;go_simp;try with_reducible rfl)
    refine wpAnyIn_ready (rs:=[10]) (by kernel_rfl) (by simp) ?_
    refine AllReadyIn.cons rfl (fun K hK=>?_) AllReadyIn.nil
    go_simp
    refine hK _ _ ?_
    clear hK K
    refine wpAnyIn_done (by kernel_rfl) ?_ _
    exact HK3.out
   refine AllReadyIn.cons rfl (fun K hK=>?_) AllReadyIn.nil
   go_simp
   refine hK _ _ ?_
   clear hK K
   refine wpAnyIn_take (i:=6) (v:=?vd30) rfl rfl (by kernel_rfl) (by kernel_rfl) (by kernel_rfl) (fun _ _ _ h=>h) ⟨Or.inl ⟨by rfl,?hyd30⟩,fun _=>rfl⟩ ?restd30
   case hyd30=>(intro w;go_simp;try with_reducible rfl)
   refine wpAnyIn_ready (rs:=[0,4]) (by kernel_rfl) (by simp) ?_
   refine AllReadyIn.cons rfl (fun K hK=>?_) ?_
   ·go_simp
    refine hK _ _ ?_
    clear hK K
    refine wpAnyIn_ready (rs:=[4]) (by kernel_rfl) (by simp) ?_
    refine AllReadyIn.cons rfl (fun K hK=>?_) AllReadyIn.nil
    go_simp
    refine hK _ _ ?_
    clear hK K
    refine wpAnyIn_ready (rs:=[7]) (by kernel_rfl) (by simp) ?_
    refine AllReadyIn.cons rfl (fun K hK=>?_) AllReadyIn.nil
    gi_wp2_with (refine⟨trivial,?_⟩;gi_at_call 130;refine(callsIn_wide.2 HI'.out).mono ?_;rintro e w2 ⟨s2,c2,rfl,hc2,hb2,hob,k1,k2,hb1⟩;have HK3:Hid (K3 { tmps:=#[.pointer (some ⟨p,1,none⟩),.pointer (some ⟨t,0,none⟩),.slice none 0 0,.pointer (some ⟨q,0,none⟩),undef,undef,.pointer (some ⟨p,1,none⟩),.tuple #[],.pointer (some ⟨p,1,none⟩),.func (.func 170) #[] #[.pointer (some ⟨WS,0,none⟩)],undef,undef,undef,undef,undef,undef,undef,undef,undef,undef,undef,undef,undef,undef,undef,.pointer (some ⟨p,1,none⟩),.pointer (some ⟨p,1,none⟩),.pointer (some ⟨p,1,none⟩),.pointer (some ⟨p,1,none⟩),.slice sp m cap,.slice us k uc,.int .i64 (k:Int),.slice s2 (m - k) c2,.pointer (some ⟨p,1,none⟩),.pointer (some ⟨p,1,none⟩),undef],defers:=[{ target:=.collected D,args:=#[] }] } (w2.setCell ⟨p,1,none⟩ (.slice s2 (m - k) c2))):=key3 s2 c2 w2 hc2 hb2 hob hb1;have k3:=HKT.out w2 hb1;clear hc2 hb2 hob hb1)
    refine wpAnyIn_take (i:=8) (v:=?vd31) rfl rfl (by kernel_rfl) (by kernel_rfl) (by kernel_rfl) (fun _ _ _ h=>h) ⟨Or.inl ⟨by rfl,?hyd31⟩,fun _=>rfl⟩ ?restd31
    case hyd31=>(intro w;go_simp;try with_reducible rfl)
    refine wpAnyIn_take (i:=9) (v:=?vd32) rfl rfl (by kernel_rfl) (by kernel_rfl) (by kernel_rfl) (fun _ _ _ h=>h) ⟨Or.inl ⟨by rfl,?hyd32⟩,fun _=>rfl⟩ ?restd32
    case hyd32=>(intro w;go_simp;try with_reducible rfl)
    refine wpAnyIn_ready (rs:=[10]) (by kernel_rfl) (by simp) ?_
    refine AllReadyIn.cons rfl (fun K hK=>?_) AllReadyIn.nil
    go_simp
    refine hK _ _ ?_
    clear hK K
    refine wpAnyIn_done (by kernel_rfl) ?_ _
    exact HK3.out
   refine AllReadyIn.cons rfl (fun K hK=>?_) AllReadyIn.nil
   go_simp
   refine hK _ _ ?_
   clear hK K
   refine wpAnyIn_ready (rs:=[0,7]) (by kernel_rfl) (by simp) ?_
   refine AllReadyIn.cons rfl (fun K hK=>?_) ?_
   ·go_simp
    refine hK _ _ ?_
    clear hK K
    refine wpAnyIn_ready (rs:=[7]) (by kernel_rfl) (by simp) ?_
    refine AllReadyIn.cons rfl (fun K hK=>?_) AllReadyIn.nil
    gi_wp2_with (refine⟨trivial,?_⟩;gi_at_call 130;refine(callsIn_wide.2 HI'.out).mono ?_;rintro e w2 ⟨s2,c2,rfl,hc2,hb2,hob,k1,k2,hb1⟩;have HK3:Hid (K3 { tmps:=#[.pointer (some ⟨p,1,none⟩),.pointer (some ⟨t,0,none⟩),.slice none 0 0,.pointer (some ⟨q,0,none⟩),undef,undef,.pointer (some ⟨p,1,none⟩),.tuple #[],.pointer (some ⟨p,1,none⟩),.func (.func 170) #[] #[.pointer (some ⟨WS,0,none⟩)],undef,undef,undef,undef,undef,undef,undef,undef,undef,undef,undef,undef,undef,undef,undef,.pointer (some ⟨p,1,none⟩),.pointer (some ⟨p,1,none⟩),.pointer (some ⟨p,1,none⟩),.pointer (some ⟨p,1,none⟩),.slice sp m cap,.slice us k uc,.int .i64 (k:Int),.slice s2 (m - k) c2,.pointer (some ⟨p,1,none⟩),.pointer (some ⟨p,1,none⟩),undef],defers:=[{ target:=.collected D,args:=#[] }] } (w2.setCell ⟨p,1,none⟩ (.slice s2 (m - k) c2))):=key3 s2 c2 w2 hc2 hb2 hob hb1;have k3:=HKT.out w2 hb1;clear hc2 hb2 hob hb1)
    refine wpAnyIn_take (i:=8) (v:=?vd33) rfl rfl (by kernel_rfl) (by kernel_rfl) (by kernel_rfl) (fun _ _ _ h=>h) ⟨Or.inl ⟨by rfl,?hyd33⟩,fun _=>rfl⟩ ?restd33
    case hyd33=>(intro w;go_simp;try with_reducible rfl)
    refine wpAnyIn_take (i:=9) (v:=?vd34) rfl rfl (by kernel_rfl) (by kernel_rfl) (by kernel_rfl) (fun _ _ _ h=>h) ⟨Or.inl ⟨by rfl,?hyd34⟩,fun _=>rfl⟩ ?restd34
    case hyd34=>(intro w;go_simp;try with_reducible rfl)
    refine wpAnyIn_ready (rs:=[10]) (by kernel_rfl) (by simp) ?_
    refine AllReadyIn.cons rfl (fun K hK=>?_) AllReadyIn.nil
    go_simp
    refine hK _ _ ?_
    clear hK K
    refine wpAnyIn_done (by kernel_rfl) ?_ _
    exact HK3.out
   refine AllReadyIn.cons rfl (fun K hK=>?_) AllReadyIn.nil
   gi_wp2_with (refine⟨trivial,?_⟩;gi_at_call 130;refine(callsIn_wide.2 HI'.out).mono ?_;rintro e w2 ⟨s2,c2,rfl,hc2,hb2,hob,k1,k2,hb1⟩;have HK3:Hid (K3 { tmps:=#[.pointer (some ⟨p,1,none⟩),.pointer (some ⟨t,0,none⟩),.slice none 0 0,.pointer (some ⟨q,0,none⟩),undef,undef,.pointer (some ⟨p,1,none⟩),.tuple #[],.pointer (some ⟨p,1,none⟩),.func (.func 170) #[] #[.pointer (some ⟨WS,0,none⟩)],undef,undef,undef,undef,undef,undef,undef,undef,undef,undef,undef,undef,undef,undef,undef,.pointer (some ⟨p,1,none⟩),.pointer (some ⟨p,1,none⟩),.pointer (some ⟨p,1,none⟩),.pointer (some ⟨p,1,none⟩),.slice sp m cap,.slice us k uc,.int .i64 (k:Int),.slice s2 (m - k) c2,.pointer (some ⟨p,1,none⟩),.pointer (some ⟨p,1,none⟩),undef],defers:=[{ target:=.collected D,args:=#[] }] } (w2.setCell ⟨p,1,none⟩ (.slice s2 (m - k) c2))):=key3 s2 c2 w2 hc2 hb2 hob hb1;have k3:=HKT.out w2 hb1;clear hc2 hb2 hob hb1)
   refine wpAnyIn_ready (rs:=[0]) (by kernel_rfl) (by simp) ?_
   refine AllReadyIn.cons rfl (fun K hK=>?_) AllReadyIn.nil
   go_simp
   refine hK _ _ ?_
   clear hK K
   refine wpAnyIn_take (i:=8) (v:=?vd35) rfl rfl (by kernel_rfl) (by kernel_rfl) (by kernel_rfl) (fun _ _ _ h=>h) ⟨Or.inl ⟨by rfl,?hyd35⟩,fun _=>rfl⟩ ?restd35
   case hyd35=>(intro w;go_simp;try with_reducible rfl)
   refine wpAnyIn_take (i:=9) (v:=?vd36) rfl rfl (by kernel_rfl) (by kernel_rfl) (by kernel_rfl) (fun _ _ _ h=>h) ⟨Or.inl ⟨by rfl,?hyd36⟩,fun _=>rfl⟩ ?restd36
   case hyd36=>(intro w;go_simp;try with_reducible rfl)
   refine wpAnyIn_ready (rs:=[10]) (by kernel_rfl) (by simp) ?_
   refine AllReadyIn.cons rfl (fun K hK=>?_) AllReadyIn.nil
   go_simp
   refine hK _ _ ?_
   clear hK K
   refine wpAnyIn_done (by kernel_rfl) ?_ _
   exact HK3.out
  refine AllReadyIn.cons rfl (fun K hK=>?_) AllReadyIn.nil
  go_simp
  refine hK _ _ ?_
  clear hK K
  refine wpAnyIn_take (i:=6) (v:=?vd37) rfl rfl (by kernel_rfl) (by kernel_rfl) (by kernel_rfl) (fun _ _ _ h=>h) ⟨Or.inl ⟨by rfl,?hyd37⟩,fun _=>rfl⟩ ?restd37
  case hyd37=>(intro w;go_simp;try with_reducible rfl)
  refine wpAnyIn_ready (rs:=[0,1]) (by kernel_rfl) (by simp) ?_
  refine AllReadyIn.cons rfl (fun K hK=>?_) ?_
  ·go_simp
   refine hK _ _ ?_
   clear hK K
   refine wpAnyIn_ready (rs:=[1]) (by kernel_rfl) (by simp) ?_
   refine AllReadyIn.cons rfl (fun K hK=>?_) AllReadyIn.nil
   go_simp
   refine hK _ _ ?_
   clear hK K
   refine wpAnyIn_take (i:=2) (v:=?vd38) rfl rfl (by kernel_rfl) (by kernel_rfl) (by kernel_rfl) (fun _ _ _ h=>h) ⟨Or.inl ⟨by rfl,?hyd38⟩,fun _=>rfl⟩ ?restd38
   case hyd38=>(intro w;go_simp;try with_reducible rfl)
   refine wpAnyIn_take (i:=3) (v:=?vd39) rfl rfl (by kernel_rfl) (by kernel_rfl) (by kernel_rfl) (fun _ _ _ h=>h) ⟨Or.inl ⟨by rfl,?hyd39⟩,fun _=>rfl⟩ ?restd39
   case hyd39=>(intro w;go_simp;try with_reducible rfl)
   refine wpAnyIn_ready (rs:=[4]) (by kernel_rfl) (by simp) ?_
   refine AllReadyIn.cons rfl (fun K hK=>?_) AllReadyIn.nil
   go_simp
   refine hK _ _ ?_
   clear hK K
   refine wpAnyIn_ready (rs:=[7]) (by kernel_rfl) (by simp) ?_
   refine AllReadyIn.cons rfl (fun K hK=>?_) AllReadyIn.nil
   gi_wp2_with (refine⟨trivial,?_⟩;gi_at_call 130;refine(callsIn_wide.2 HI'.out).mono ?_;rintro e w2 ⟨s2,c2,rfl,hc2,hb2,hob,k1,k2,hb1⟩;have HK3:Hid (K3 { tmps:=#[.pointer (some ⟨p,1,none⟩),.pointer (some ⟨t,0,none⟩),.slice none 0 0,.pointer (some ⟨q,0,none⟩),undef,undef,.pointer (some ⟨p,1,none⟩),.tuple #[],.pointer (some ⟨p,1,none⟩),.func (.func 170) #[] #[.pointer (some ⟨WS,0,none⟩)],undef,undef,undef,undef,undef,undef,undef,undef,undef,undef,undef,undef,undef,undef,undef,.pointer (some ⟨p,1,none⟩),.pointer (some ⟨p,1,none⟩),.pointer (some ⟨p,1,none⟩),.pointer (some ⟨p,1,none⟩),.slice sp m cap,.slice us k uc,.int .i64 (k:Int),.slice s2 (m - k) c2,.pointer (some ⟨p,1,none⟩),.pointer (some ⟨p,1,none⟩),undef],defers:=[{ target:=.collected D,args:=#[] }] } (w2.setCell ⟨p,1,none⟩ (.slice s2 (m - k) c2))):=key3 s2 c2 w2 hc2 hb2 hob hb1;have k3:=HKT.out w2 hb1;clear hc2 hb2 hob hb1)
   refine wpAnyIn_take (i:=8) (v:=?vd40) rfl rfl (by kernel_rfl) (by kernel_rfl) (by kernel_rfl) (fun _ _ _ h=>h) ⟨Or.inl ⟨by rfl,?hyd40⟩,fun _=>rfl⟩ ?restd40
   case hyd40=>(intro w;go_simp;try with_reducible rfl)
   refine wpAnyIn_take (i:=9) (v:=?vd41) rfl rfl (by kernel_rfl) (by kernel_rfl) (by kernel_rfl) (fun _ _ _ h=>h) ⟨Or.inl ⟨by rfl,?hyd41⟩,fun _=>rfl⟩ ?restd41
   case hyd41=>(intro w;go_simp;try with_reducible rfl)
   refine wpAnyIn_ready (rs:=[10]) (by kernel_rfl) (by simp) ?_
   refine AllReadyIn.cons rfl (fun K hK=>?_) AllReadyIn.nil
   go_simp
   refine hK _ _ ?_
   clear hK K
   refine wpAnyIn_done (by kernel_rfl) ?_ _
   exact HK3.out
  refine AllReadyIn.cons rfl (fun K hK=>?_) AllReadyIn.nil
  go_simp
  refine hK _ _ ?_
  clear hK K
  refine wpAnyIn_take (i:=2) (v:=?vd42) rfl rfl (by kernel_rfl) (by kernel_rfl) (by kernel_rfl) (fun _ _ _ h=>h) ⟨Or.inl ⟨by rfl,?hyd42⟩,fun _=>rfl⟩ ?restd42
  case hyd42=>(intro w;go_simp;try with_reducible rfl)
  refine wpAnyIn_take (i:=3) (v:=?vd43) rfl rfl (by kernel_rfl) (by kernel_rfl) (by kernel_rfl) (fun _ _ _ h=>h) ⟨Or.inl ⟨by rfl,?hyd43⟩,fun _=>rfl⟩ ?restd43
  case hyd43=>(intro w;go_simp;try with_reducible rfl)
  refine wpAnyIn_ready (rs:=[0,4]) (by kernel_rfl) (by simp) ?_
  refine AllReadyIn.cons rfl (fun K hK=>?_) ?_
  ·go_simp
   refine hK _ _ ?_
   clear hK K
   refine wpAnyIn_ready (rs:=[4]) (by kernel_rfl) (by simp) ?_
   refine AllReadyIn.cons rfl (fun K hK=>?_) AllReadyIn.nil
   go_simp
   refine hK _ _ ?_
   clear hK K
   refine wpAnyIn_ready (rs:=[7]) (by kernel_rfl) (by simp) ?_
   refine AllReadyIn.cons rfl (fun K hK=>?_) AllReadyIn.nil
   gi_wp2_with (refine⟨trivial,?_⟩;gi_at_call 130;refine(callsIn_wide.2 HI'.out).mono ?_;rintro e w2 ⟨s2,c2,rfl,hc2,hb2,hob,k1,k2,hb1⟩;have HK3:Hid (K3 { tmps:=#[.pointer (some ⟨p,1,none⟩),.pointer (some ⟨t,0,none⟩),.slice none 0 0,.pointer (some ⟨q,0,none⟩),undef,undef,.pointer (some ⟨p,1,none⟩),.tuple #[],.pointer (some ⟨p,1,none⟩),.func (.func 170) #[] #[.pointer (some ⟨WS,0,none⟩)],undef,undef,undef,undef,undef,undef,undef,undef,undef,undef,undef,undef,undef,undef,undef,.pointer (some ⟨p,1,none⟩),.pointer (some ⟨p,1,none⟩),.pointer (some ⟨p,1,none⟩),.pointer (some ⟨p,1,none⟩),.slice sp m cap,.slice us k uc,.int .i64 (k:Int),.slice s2 (m - k) c2,.pointer (some ⟨p,1,none⟩),.pointer (some ⟨p,1,none⟩),undef],defers:=[{ target:=.collected D,args:=#[] }] } (w2.setCell ⟨p,1,none⟩ (.slice s2 (m - k) c2))):=key3 s2 c2 w2 hc2 hb2 hob hb1;have k3:=HKT.out w2 hb1;clear hc2 hb2 hob hb1)
   refine wpAnyIn_take (i:=8) (v:=?vd44) rfl rfl (by kernel_rfl) (by kernel_rfl) (by kernel_rfl) (fun _ _ _ h=>h) ⟨Or.inl ⟨by rfl,?hyd44⟩,fun _=>rfl⟩ ?restd44
   case hyd44=>(intro w;go_simp;try with_reducible rfl)
   refine wpAnyIn_take (i:=9) (v:=?vd45) rfl rfl (by kernel_rfl) (by kernel_rfl) (by kernel_rfl) (fun _ _ _ h=>h) ⟨Or.inl ⟨by rfl,?hyd45⟩,fun _=>rfl⟩ ?restd45
   case hyd45=>(intro w;go_simp;try with_reducible rfl)
   refine wpAnyIn_ready (rs:=[10]) (by kernel_rfl) (by simp) ?_
   refine AllReadyIn.cons rfl (fun K hK=>?_) AllReadyIn.nil
   go_simp
   refine hK _ _ ?_
   clear hK K
   refine wpAnyIn_done (by kernel_rfl) ?_ _
   exact HK3.out
  refine AllReadyIn.cons rfl (fun K hK=>?_) AllReadyIn.nil
  go_simp
  refine hK _ _ ?_
  clear hK K
  refine wpAnyIn_ready (rs:=[0,7]) (by kernel_rfl) (by simp) ?_
  refine AllReadyIn.cons rfl (fun K hK=>?_) ?_
  ·go_simp
   refine hK _ _ ?_
   clear hK K
   refine wpAnyIn_ready (rs:=[7]) (by kernel_rfl) (by simp) ?_
   refine AllReadyIn.cons rfl (fun K hK=>?_) AllReadyIn.nil
   gi_wp2_with (refine⟨trivial,?_⟩;gi_at_call 130;refine(callsIn_wide.2 HI'.out).mono ?_;rintro e w2 ⟨s2,c2,rfl,hc2,hb2,hob,k1,k2,hb1⟩;have HK3:Hid (K3 { tmps:=#[.pointer (some ⟨p,1,none⟩),.pointer (some ⟨t,0,none⟩),.slice none 0 0,.pointer (some ⟨q,0,none⟩),undef,undef,.pointer (some ⟨p,1,none⟩),.tuple #[],.pointer (some ⟨p,1,none⟩),.func (.func 170) #[] #[.pointer (some ⟨WS,0,none⟩)],undef,undef,undef,undef,undef,undef,undef,undef,undef,undef,undef,undef,undef,undef,undef,.pointer (some ⟨p,1,none⟩),.pointer (some ⟨p,1,none⟩),.pointer (some ⟨p,1,none⟩),.pointer (some ⟨p,1,none⟩),.slice sp m cap,.slice us k uc,.int .i64 (k:Int),.slice s2 (m - k) c2,.pointer (some ⟨p,1,none⟩),.pointer (some ⟨p,1,none⟩),undef],defers:=[{ target:=.collected D,args:=#[] }] } (w2.setCell ⟨p,1,none⟩ (.slice s2 (m - k) c2))):=key3 s2 c2 w2 hc2 hb2 hob hb1;have k3:=HKT.out w2 hb1;clear hc2 hb2 hob hb1)
   refine wpAnyIn_take (i:=8) (v:=?vd46) rfl rfl (by kernel_rfl) (by kernel_rfl) (by kernel_rfl) (fun _ _ _ h=>h) ⟨Or.inl ⟨by rfl,?hyd46⟩,fun _=>rfl⟩ ?restd46
   case hyd46=>(intro w;go_simp;try with_reducible rfl)
   refine wpAnyIn_take (i:=9) (v:=?vd47) rfl rfl (by kernel_rfl) (by kernel_rfl) (by kernel_rfl) (fun _ _ _ h=>h) ⟨Or.inl ⟨by rfl,?hyd47⟩,fun _=>rfl⟩ ?restd47
   case hyd47=>(intro w;go_simp;try with_reducible rfl)
   refine wpAnyIn_ready (rs:=[10]) (by kernel_rfl) (by simp) ?_
   refine AllReadyIn.cons rfl (fun K hK=>?_) AllReadyIn.nil
   go_simp
   refine hK _ _ ?_
   clear hK K
   refine wpAnyIn_done (by kernel_rfl) ?_ _
   exact HK3.out
  refine AllReadyIn.cons rfl (fun K hK=>?_) AllReadyIn.nil
  gi_wp2_with (refine⟨trivial,?_⟩;gi_at_call 130;refine(callsIn_wide.2 HI'.out).mono ?_;rintro e w2 ⟨s2,c2,rfl,hc2,hb2,hob,k1,k2,hb1⟩;have HK3:Hid (K3 { tmps:=#[.pointer (some ⟨p,1,none⟩),.pointer (some ⟨t,0,none⟩),.slice none 0 0,.pointer (some ⟨q,0,none⟩),undef,undef,.pointer (some ⟨p,1,none⟩),.tuple #[],.pointer (some ⟨p,1,none⟩),.func (.func 170) #[] #[.pointer (some ⟨WS,0,none⟩)],undef,undef,undef,undef,undef,undef,undef,undef,undef,undef,undef,undef,undef,undef,undef,.pointer (some ⟨p,1,none⟩),.pointer (some ⟨p,1,none⟩),.pointer (some ⟨p,1,none⟩),.pointer (some ⟨p,1,none⟩),.slice sp m cap,.slice us k uc,.int .i64 (k:Int),.slice s2 (m - k) c2,.pointer (some ⟨p,1,none⟩),.pointer (some ⟨p,1,none⟩),undef],defers:=[{ target:=.collected D,args:=#[] }] } (w2.setCell ⟨p,1,none⟩ (.slice s2 (m - k) c2))):=key3 s2 c2 w2 hc2 hb2 hob hb1;have k3:=HKT.out w2 hb1;clear hc2 hb2 hob hb1)
  refine wpAnyIn_ready (rs:=[0]) (by kernel_rfl) (by simp) ?_
  refine AllReadyIn.cons rfl (fun K hK=>?_) AllReadyIn.nil
  go_simp
  refine hK _ _ ?_
  clear hK K
  refine wpAnyIn_take (i:=8) (v:=?vd48) rfl rfl (by kernel_rfl) (by kernel_rfl) (by kernel_rfl) (fun _ _ _ h=>h) ⟨Or.inl ⟨by rfl,?hyd48⟩,fun _=>rfl⟩ ?restd48
  case hyd48=>(intro w;go_simp;try with_reducible rfl)
  refine wpAnyIn_take (i:=9) (v:=?vd49) rfl rfl (by kernel_rfl) (by kernel_rfl) (by kernel_rfl) (fun _ _ _ h=>h) ⟨Or.inl ⟨by rfl,?hyd49⟩,fun _=>rfl⟩ ?restd49
  case hyd49=>(intro w;go_simp;try with_reducible rfl)
  refine wpAnyIn_ready (rs:=[10]) (by kernel_rfl) (by simp) ?_
  refine AllReadyIn.cons rfl (fun K hK=>?_) AllReadyIn.nil
  go_simp
  refine hK _ _ ?_
  clear hK K
  refine wpAnyIn_done (by kernel_rfl) ?_ _
  exact HK3.out
 refine wpIn_rangeFunc_ownG rfl (by omega) (gf:=170) (lb:=#[.pointer (some ⟨WS,0,none⟩)]) rfl trivial (enters_of Tryz.func170 (by kernel_rfl) rfl)
  (seq_stops _ (by omega) WS p g m cap sp hsp (by omega) F bd hF0.out HF.out W0 (by omega) (by omega) (fun _=>by omega) b1.cell hlk0 hcs0) Kp.trans (kp_b (by simp;omega)) (Below.refl _ _) (fun _=>rfl)
  (fun pre W=>(∃ u,Boxed W q 111 u/\W.ownsRow q 3 1 u pre.length (num (pre.map f))/\(u=.slice none 0 0↔pre=[]))/\(∀ x∈pre,F (x.val+1)<=0)/\Below q Wb W/\Boxed W WS 213 (.pointer (some ⟨p,1,none⟩)))
  (fun c pre W=>c=.exit 0/\∃ pre' x,pre=pre' ++ [x]/\0 < F (x.val+1)/\(∃ u,Boxed W q 111 u/\W.ownsRow q 3 1 u pre'.length (num (pre'.map f))/\(u=.slice none 0 0↔pre'=[]))/\(∀ x∈pre',F (x.val+1)<=0)/\Below q Wb W)
  (ownFrom_of fun s W W' hs hk hB=>by
   obtain⟨⟨u,h1,h2,h3⟩,h4,h5,h6⟩:=hs
   exact⟨⟨u,hk _ _ _ _ h1,owns_of h2 (fun g hg=>by
    rcases h2.2 with⟨rfl,_⟩ |⟨g',cap,cur,rfl,_,hh,_⟩
    ·cases hg
    ·obtain rfl:g'=g:=by simpa [Value.ownBlock] using hg
     rw [hh];exact hk _ _ _ _ hh),h3⟩,h4,h5.trans (hB q (by omega) (by have:=h5.size;have:=HQ.out;omega)),hk _ _ _ _ h6⟩)
  (fun c=>ownFrom_of fun s W W' hs hk hB=>by
   obtain⟨hc,pre',x,hp,hf,⟨u,h1,h2,h3⟩,h4,h5⟩:=hs
   exact⟨hc,pre',x,hp,hf,⟨u,hk _ _ _ _ h1,owns_of h2 (fun g hg=>by
    rcases h2.2 with⟨rfl,_⟩ |⟨g',cap,cur,rfl,_,hh,_⟩
    ·cases hg
    ·obtain rfl:g'=g:=by simpa [Value.ownBlock] using hg
     rw [hh];exact hk _ _ _ _ hh),h3⟩,h4,h5.trans (hB q (by omega) (by have:=h5.size;have:=HQ.out;omega))⟩)
  ⟨⟨_,b0,World.ownsRow_nil _ _ _ _,by simp⟩,by simp,hB0,b1⟩
  (fun x=>{ tmps:=#[.pointer (some ⟨p,1,none⟩),.pointer (some ⟨t,0,none⟩),.slice none 0 0,.pointer (some ⟨q,0,none⟩),.int .i64 ((x.val:Nat):Int),.int .i64 (F (x.val+1)),.pointer (some ⟨p,1,none⟩),.tuple #[],.pointer (some ⟨p,1,none⟩),.func (.func 170) #[] #[.pointer (some ⟨WS,0,none⟩)],.int .i64 ((x.val:Nat):Int),.int .i64 (F (x.val+1)),undef,undef,undef,undef,undef,undef,undef,undef,undef,undef,undef,undef,undef,undef,undef,undef,undef,undef,undef,undef,undef,undef,undef,undef],defers:=[] }) ?assign ?body ?done ?stop
 case assign =>
  intro l x W K hK
  gi_wp2
  exact hK
 case body =>
  rintro l pre x W1 ⟨⟨u,hbu,hrow,hnil⟩,hle,hB1,hbws⟩ hlt
  have hxm:x.val < m:=x.isLt
  have hxI:((x.val:Nat):Int) < m:=by omega
  have hm0:0 < m:=by omega
  have hsp':=hsp hm0
  subst hsp'
  have cq:=hbu.cell
  have ct:=(hB1.cell (p:=⟨t,0,none⟩) htq).trans HBX.out.cell
  have cp:=(hB1.cell (p:=⟨p,1,none⟩) hpl).trans HLK.out
  have cg:=(hB1.cell (p:=⟨g,x.val * 2,none⟩) hgl).trans (HCS1.out x)
  by_cases hgt:0 < F (x.val+1)
  ·have HRes:Hid (∃ u,Boxed W1 q 111 u/\W1.ownsRow q 3 1 u pre.length (num (pre.map f))/\(u=.slice none 0 0↔pre=[])):=⟨u,hbu,hrow,hnil⟩
   have HLE:Hid (∀ x∈pre,F (x.val+1)<=0):=hle
   have HB1:Hid (Below q Wb W1):=hB1
   clear hbu hrow hnil hle hB1 hbws hlk0 hcs0 key2 hK2 b0 b1 hsz
   gi_wp2
   exact⟨KeepsFrom.refl _ _,rfl,pre,x,rfl,hgt,HRes.out,HLE.out,HB1.out⟩
  ·have hgt':F (x.val+1)<=0:=by omega
   obtain⟨i0,hi,hz0,hz1,hz2⟩:=info_parts' infoW
   have hqW:q<=W1.heap.size:=by have:=hbu.lt;omega
   have HROW:Hid ((W1.alloc (Obj.cells #[.int .i64 (f x)] 3)).drew.ownsRow q 3 1 u pre.length (num (pre.map f))):=hrow.alloc _
   have HCN:Hid (∀ j z,([.int .i64 (f x)]:List Value)[j]?=some z->(W1.alloc (Obj.cells #[.int .i64 (f x)] 3)).drew.cell? ((⟨W1.heap.size,0,none⟩:Addr).add j)=some z):=cell_one_new _ _ _
   have HTW:Hid (q<=(W1.alloc (Obj.cells #[.int .i64 (f x)] 3)).drew.heap.size):=by show q<=(W1.alloc (Obj.cells #[.int .i64 (f x)] 3)).heap.size;rw [alloc_size];omega
   have FIN:∀ (g' cap':Nat) (w1:World),w1.ownsRow q 3 1 (.slice (some ⟨g',0,none⟩) (pre.length+1) cap') (pre.length+1) (num (pre.map f) ++ [.int .i64 (f x)])->(W1.alloc (Obj.cells #[.int .i64 (f x)] 3)).drew.grownBy w1 u.ownBlock ->
     w1.cell? ⟨q,0,none⟩=some u/\w1.frozen? ⟨q,0,none⟩=false/\ownPostG W0.heap.size (Kp [WS,p,g]) (fun pre W=>(∃ u,Boxed W q 111 u/\W.ownsRow q 3 1 u pre.length (num (pre.map f))/\(u=.slice none 0 0↔pre=[]))/\(∀ x∈pre,F (x.val+1)<=0)/\Below q Wb W/\Boxed W WS 213 (.pointer (some ⟨p,1,none⟩))) (fun c pre W=>c=.exit 0/\∃ pre' x,pre=pre' ++ [x]/\0 < F (x.val+1)/\(∃ u,Boxed W q 111 u/\W.ownsRow q 3 1 u pre'.length (num (pre'.map f))/\(u=.slice none 0 0↔pre'=[]))/\(∀ x∈pre',F (x.val+1)<=0)/\Below q Wb W) (pre ++ [x]) W1 Exit.normal { tmps:=#[],defers:=[] } (w1.setCell ⟨q,0,none⟩ (.slice (some ⟨g',0,none⟩) (pre.length+1) cap')):=by
    intro g' cap' w1 hown' hgrow
    have hgrow':(W1.alloc (Obj.cells #[.int .i64 (f x)] 3)).grownBy w1 u.ownBlock:=⟨hgrow.os,hgrow.tape,hgrow.output,hgrow.size,hgrow.block⟩
    obtain⟨hv1,hv2,hr2,hk2,hb2⟩:=hbu.appended (by decide) hrow hqW (Nat.le_refl _) hown' hgrow'
    refine⟨hv1.cell,hv1.frozen,hk2.from _,fun k hk=>?_,⟨_,hv2,?_,by simp⟩,fun y hy=>?_,hB1.trans hb2,?_⟩
    ·simp only [List.mem_cons,List.not_mem_nil,or_false] at hk
     rcases hk with hk | hk | hk <;> subst hk
     ·have hne:some _≠u.ownBlock:=hbws.not_row (by decide) hrow
      have hws:=hbws.lt
      rw [Below.heap_setCell _ _ _ _ (by simp only [ne_eq];omega),hgrow'.block _ (by rw [alloc_size];omega) hne]
      exact Below.heap_alloc _ _ _ (by omega)
     ·exact hb2.block _ hpl
     ·exact hb2.block _ hgl
    ·have:num ((pre ++ [x]).map f)=num (pre.map f) ++ [.int .i64 (f x)]:=by simp [num]
     rw [this,List.length_append,List.length_singleton]
     exact hr2
    ·rcases List.mem_append.1 hy with hy | hy
     ·exact hle y hy
     ·have:y=x:=by simpa using hy
      rw [this];exact hgt'
    ·have hne:some WS≠u.ownBlock:=hbws.not_row (by decide) hrow
     exact Boxed.other ((hbws.alloc _).kept hgrow' hne) (by omega)
   have ca:∀ o:Obj,(W1.alloc o).cell? ⟨q,0,none⟩=some u:=fun o=>((alloc_below W1 o).cell (p:=⟨q,0,none⟩) hbu.lt).trans cq
   have hplen:pre.length<=1000:=by omega
   clear hbu hrow hnil hle hB1 hbws hlk0 hcs0 key2 hK2 b0 b1 hsz hlt HLK HCS1 HCS2 HBX HC HV HF HFB HR HFF hF0 HM HH HT HBW hB hl
   gi_wp2
   refine region_round (by intro i o ho c;rcases i with _ | _ | _ | _ | _ | _ | _ | _ | _ | _ | _ | _ | i <;> (try (cases ho;exact(fun h=>by cases h)));simp at ho) hmx ?_
   refine wpAnyIn_take (i:=5) (v:=?vc1) rfl rfl (by kernel_rfl) (by kernel_rfl) (by kernel_rfl) (fun _ _ _ h=>h) ⟨Or.inl ⟨by rfl,?hyc1⟩,fun _=>rfl⟩ ?restc1
   case hyc1=>(intro w;go_simp;try with_reducible rfl)
   refine wpAnyIn_ready (rs:=[0,1]) (by kernel_rfl) (by simp) ?_
   refine AllReadyIn.cons rfl (fun K hK=>?_) ?_
   ·go_simp
    refine hK _ _ ?_
    clear hK K
    refine wpAnyIn_ready (rs:=[1]) (by kernel_rfl) (by simp) ?_
    refine AllReadyIn.cons rfl (fun K hK=>?_) AllReadyIn.nil
    go_simp
    refine hK _ _ ?_
    clear hK K
    refine wpAnyIn_take (i:=2) (v:=?vc2) rfl rfl (by kernel_rfl) (by kernel_rfl) (by kernel_rfl) (fun _ _ _ h=>h) ⟨Or.inl ⟨by rfl,?hyc2⟩,fun _=>rfl⟩ ?restc2
    case hyc2=>(intro w;go_simp;try with_reducible rfl)
    refine wpAnyIn_take (i:=3) (v:=?vc3) rfl rfl (by kernel_rfl) (by kernel_rfl) (by kernel_rfl) (fun _ _ _ h=>h) ⟨Or.inl ⟨by rfl,?hyc3⟩,fun _=>rfl⟩ ?restc3
    case hyc3=>(intro w;go_simp;try with_reducible rfl)
    refine wpAnyIn_ready (rs:=[4]) (by kernel_rfl) (by simp) ?_
    refine AllReadyIn.cons rfl (fun K hK=>?_) AllReadyIn.nil
    go_simp
    refine hK _ _ ?_
    clear hK K
    refine wpAnyIn_take (i:=6) (v:=?vc4) rfl rfl (by kernel_rfl) (by kernel_rfl) (by kernel_rfl) (fun _ _ _ h=>h) ⟨Or.inl ⟨by rfl,?hyc4⟩,fun _=>rfl⟩ ?restc4
    case hyc4=>(intro w;go_simp;try with_reducible rfl)
    refine wpAnyIn_take (i:=7) (v:=?vc5) rfl rfl (by kernel_rfl) (by kernel_rfl) (by kernel_rfl) (fun _ _ _ h=>h) ⟨Or.inl ⟨by rfl,?hyc5⟩,fun _=>rfl⟩ ?restc5
    case hyc5=>(intro w;go_simp;try with_reducible rfl)
    refine wpAnyIn_ready (rs:=[8]) (by kernel_rfl) (by simp) ?_
    refine AllReadyIn.cons rfl (fun K hK=>?_) AllReadyIn.nil
    go_simp
    refine hK _ _ ?_
    clear hK K
    refine wpAnyIn_ready (rs:=[9]) (by kernel_rfl) (by simp) ?_
    refine AllReadyIn.cons rfl (fun K hK=>?_) AllReadyIn.nil
    go_simp
    refine hK _ _ ?_
    clear hK K
    refine wpAnyIn_ready (rs:=[10]) (by kernel_rfl) (by simp) ?_
    refine AllReadyIn.cons rfl (fun K hK=>?_) AllReadyIn.nil
    refine step_append_in rfl (.tmp 14) (.tmp 23) 111 rfl q 3 i0 (.int .i64 0) 1 8 Tryz.underlying111 hi hz0 hz1 hz2 rfl (by decide) u pre.length (num (pre.map f)) (by simp [Act.eval,Act.put]) HROW.out ⟨W1.heap.size,0,none⟩ 1 1 [.int .i64 (f x)] (by simp [Act.eval,Act.put]) rfl (HCN.out) (by simp [Value.oneCell']) (by simp only [maxLen];omega) (by omega) HTW.out ?_;intro v' w1 hown' hgrow _;obtain⟨g',cap',rfl⟩:=ownsRow_succ hown';obtain⟨hc1,hf1,HFN⟩:=FIN g' cap' w1 hown' hgrow;have HF2:=(show Hid _ from HFN);clear hown' hgrow HFN
    refine hK _ _ ?_
    clear hK K
    refine wpAnyIn_ready (rs:=[11]) (by kernel_rfl) (by simp) ?_
    refine AllReadyIn.cons rfl (fun K hK=>?_) AllReadyIn.nil
    go_simp
    refine hK _ _ ?_
    clear hK K
    refine wpAnyIn_done (by kernel_rfl) ?_ _
    exact HF2.out
   refine AllReadyIn.cons rfl (fun K hK=>?_) AllReadyIn.nil
   go_simp
   refine hK _ _ ?_
   clear hK K
   refine wpAnyIn_take (i:=2) (v:=?vc6) rfl rfl (by kernel_rfl) (by kernel_rfl) (by kernel_rfl) (fun _ _ _ h=>h) ⟨Or.inl ⟨by rfl,?hyc6⟩,fun _=>rfl⟩ ?restc6
   case hyc6=>(intro w;go_simp;try with_reducible rfl)
   refine wpAnyIn_take (i:=3) (v:=?vc7) rfl rfl (by kernel_rfl) (by kernel_rfl) (by kernel_rfl) (fun _ _ _ h=>h) ⟨Or.inl ⟨by rfl,?hyc7⟩,fun _=>rfl⟩ ?restc7
   case hyc7=>(intro w;go_simp;try with_reducible rfl)
   refine wpAnyIn_ready (rs:=[0,4]) (by kernel_rfl) (by simp) ?_
   refine AllReadyIn.cons rfl (fun K hK=>?_) ?_
   ·go_simp
    refine hK _ _ ?_
    clear hK K
    refine wpAnyIn_ready (rs:=[4]) (by kernel_rfl) (by simp) ?_
    refine AllReadyIn.cons rfl (fun K hK=>?_) AllReadyIn.nil
    go_simp
    refine hK _ _ ?_
    clear hK K
    refine wpAnyIn_take (i:=6) (v:=?vc8) rfl rfl (by kernel_rfl) (by kernel_rfl) (by kernel_rfl) (fun _ _ _ h=>h) ⟨Or.inl ⟨by rfl,?hyc8⟩,fun _=>rfl⟩ ?restc8
    case hyc8=>(intro w;go_simp;try with_reducible rfl)
    refine wpAnyIn_take (i:=7) (v:=?vc9) rfl rfl (by kernel_rfl) (by kernel_rfl) (by kernel_rfl) (fun _ _ _ h=>h) ⟨Or.inl ⟨by rfl,?hyc9⟩,fun _=>rfl⟩ ?restc9
    case hyc9=>(intro w;go_simp;try with_reducible rfl)
    refine wpAnyIn_ready (rs:=[8]) (by kernel_rfl) (by simp) ?_
    refine AllReadyIn.cons rfl (fun K hK=>?_) AllReadyIn.nil
    go_simp
    refine hK _ _ ?_
    clear hK K
    refine wpAnyIn_ready (rs:=[9]) (by kernel_rfl) (by simp) ?_
    refine AllReadyIn.cons rfl (fun K hK=>?_) AllReadyIn.nil
    go_simp
    refine hK _ _ ?_
    clear hK K
    refine wpAnyIn_ready (rs:=[10]) (by kernel_rfl) (by simp) ?_
    refine AllReadyIn.cons rfl (fun K hK=>?_) AllReadyIn.nil
    refine step_append_in rfl (.tmp 14) (.tmp 23) 111 rfl q 3 i0 (.int .i64 0) 1 8 Tryz.underlying111 hi hz0 hz1 hz2 rfl (by decide) u pre.length (num (pre.map f)) (by simp [Act.eval,Act.put]) HROW.out ⟨W1.heap.size,0,none⟩ 1 1 [.int .i64 (f x)] (by simp [Act.eval,Act.put]) rfl (HCN.out) (by simp [Value.oneCell']) (by simp only [maxLen];omega) (by omega) HTW.out ?_;intro v' w1 hown' hgrow _;obtain⟨g',cap',rfl⟩:=ownsRow_succ hown';obtain⟨hc1,hf1,HFN⟩:=FIN g' cap' w1 hown' hgrow;have HF2:=(show Hid _ from HFN);clear hown' hgrow HFN
    refine hK _ _ ?_
    clear hK K
    refine wpAnyIn_ready (rs:=[11]) (by kernel_rfl) (by simp) ?_
    refine AllReadyIn.cons rfl (fun K hK=>?_) AllReadyIn.nil
    go_simp
    refine hK _ _ ?_
    clear hK K
    refine wpAnyIn_done (by kernel_rfl) ?_ _
    exact HF2.out
   refine AllReadyIn.cons rfl (fun K hK=>?_) AllReadyIn.nil
   go_simp
   refine hK _ _ ?_
   clear hK K
   refine wpAnyIn_take (i:=6) (v:=?vc10) rfl rfl (by kernel_rfl) (by kernel_rfl) (by kernel_rfl) (fun _ _ _ h=>h) ⟨Or.inl ⟨by rfl,?hyc10⟩,fun _=>rfl⟩ ?restc10
   case hyc10=>(intro w;go_simp;try with_reducible rfl)
   refine wpAnyIn_take (i:=7) (v:=?vc11) rfl rfl (by kernel_rfl) (by kernel_rfl) (by kernel_rfl) (fun _ _ _ h=>h) ⟨Or.inl ⟨by rfl,?hyc11⟩,fun _=>rfl⟩ ?restc11
   case hyc11=>(intro w;go_simp;try with_reducible rfl)
   refine wpAnyIn_ready (rs:=[0,8]) (by kernel_rfl) (by simp) ?_
   refine AllReadyIn.cons rfl (fun K hK=>?_) ?_
   ·go_simp
    refine hK _ _ ?_
    clear hK K
    refine wpAnyIn_ready (rs:=[8]) (by kernel_rfl) (by simp) ?_
    refine AllReadyIn.cons rfl (fun K hK=>?_) AllReadyIn.nil
    go_simp
    refine hK _ _ ?_
    clear hK K
    refine wpAnyIn_ready (rs:=[9]) (by kernel_rfl) (by simp) ?_
    refine AllReadyIn.cons rfl (fun K hK=>?_) AllReadyIn.nil
    go_simp
    refine hK _ _ ?_
    clear hK K
    refine wpAnyIn_ready (rs:=[10]) (by kernel_rfl) (by simp) ?_
    refine AllReadyIn.cons rfl (fun K hK=>?_) AllReadyIn.nil
    refine step_append_in rfl (.tmp 14) (.tmp 23) 111 rfl q 3 i0 (.int .i64 0) 1 8 Tryz.underlying111 hi hz0 hz1 hz2 rfl (by decide) u pre.length (num (pre.map f)) (by simp [Act.eval,Act.put]) HROW.out ⟨W1.heap.size,0,none⟩ 1 1 [.int .i64 (f x)] (by simp [Act.eval,Act.put]) rfl (HCN.out) (by simp [Value.oneCell']) (by simp only [maxLen];omega) (by omega) HTW.out ?_;intro v' w1 hown' hgrow _;obtain⟨g',cap',rfl⟩:=ownsRow_succ hown';obtain⟨hc1,hf1,HFN⟩:=FIN g' cap' w1 hown' hgrow;have HF2:=(show Hid _ from HFN);clear hown' hgrow HFN
    refine hK _ _ ?_
    clear hK K
    refine wpAnyIn_ready (rs:=[11]) (by kernel_rfl) (by simp) ?_
    refine AllReadyIn.cons rfl (fun K hK=>?_) AllReadyIn.nil
    go_simp
    refine hK _ _ ?_
    clear hK K
    refine wpAnyIn_done (by kernel_rfl) ?_ _
    exact HF2.out
   refine AllReadyIn.cons rfl (fun K hK=>?_) AllReadyIn.nil
   go_simp
   refine hK _ _ ?_
   clear hK K
   refine wpAnyIn_ready (rs:=[0,9]) (by kernel_rfl) (by simp) ?_
   refine AllReadyIn.cons rfl (fun K hK=>?_) ?_
   ·go_simp
    refine hK _ _ ?_
    clear hK K
    refine wpAnyIn_ready (rs:=[9]) (by kernel_rfl) (by simp) ?_
    refine AllReadyIn.cons rfl (fun K hK=>?_) AllReadyIn.nil
    go_simp
    refine hK _ _ ?_
    clear hK K
    refine wpAnyIn_ready (rs:=[10]) (by kernel_rfl) (by simp) ?_
    refine AllReadyIn.cons rfl (fun K hK=>?_) AllReadyIn.nil
    refine step_append_in rfl (.tmp 14) (.tmp 23) 111 rfl q 3 i0 (.int .i64 0) 1 8 Tryz.underlying111 hi hz0 hz1 hz2 rfl (by decide) u pre.length (num (pre.map f)) (by simp [Act.eval,Act.put]) HROW.out ⟨W1.heap.size,0,none⟩ 1 1 [.int .i64 (f x)] (by simp [Act.eval,Act.put]) rfl (HCN.out) (by simp [Value.oneCell']) (by simp only [maxLen];omega) (by omega) HTW.out ?_;intro v' w1 hown' hgrow _;obtain⟨g',cap',rfl⟩:=ownsRow_succ hown';obtain⟨hc1,hf1,HFN⟩:=FIN g' cap' w1 hown' hgrow;have HF2:=(show Hid _ from HFN);clear hown' hgrow HFN
    refine hK _ _ ?_
    clear hK K
    refine wpAnyIn_ready (rs:=[11]) (by kernel_rfl) (by simp) ?_
    refine AllReadyIn.cons rfl (fun K hK=>?_) AllReadyIn.nil
    go_simp
    refine hK _ _ ?_
    clear hK K
    refine wpAnyIn_done (by kernel_rfl) ?_ _
    exact HF2.out
   refine AllReadyIn.cons rfl (fun K hK=>?_) AllReadyIn.nil
   go_simp
   refine hK _ _ ?_
   clear hK K
   refine wpAnyIn_ready (rs:=[0]) (by kernel_rfl) (by simp) ?_
   refine AllReadyIn.cons rfl (fun K hK=>?_) AllReadyIn.nil
   go_simp
   refine hK _ _ ?_
   clear hK K
   refine wpAnyIn_ready (rs:=[10]) (by kernel_rfl) (by simp) ?_
   refine AllReadyIn.cons rfl (fun K hK=>?_) AllReadyIn.nil
   refine step_append_in rfl (.tmp 14) (.tmp 23) 111 rfl q 3 i0 (.int .i64 0) 1 8 Tryz.underlying111 hi hz0 hz1 hz2 rfl (by decide) u pre.length (num (pre.map f)) (by simp [Act.eval,Act.put]) HROW.out ⟨W1.heap.size,0,none⟩ 1 1 [.int .i64 (f x)] (by simp [Act.eval,Act.put]) rfl (HCN.out) (by simp [Value.oneCell']) (by simp only [maxLen];omega) (by omega) HTW.out ?_;intro v' w1 hown' hgrow _;obtain⟨g',cap',rfl⟩:=ownsRow_succ hown';obtain⟨hc1,hf1,HFN⟩:=FIN g' cap' w1 hown' hgrow;have HF2:=(show Hid _ from HFN);clear hown' hgrow HFN
   refine hK _ _ ?_
   clear hK K
   refine wpAnyIn_ready (rs:=[11]) (by kernel_rfl) (by simp) ?_
   refine AllReadyIn.cons rfl (fun K hK=>?_) AllReadyIn.nil
   go_simp
   refine hK _ _ ?_
   clear hK K
   refine wpAnyIn_done (by kernel_rfl) ?_ _
   exact HF2.out
 case done =>
  rintro D ys' W1 hD rfl ⟨⟨u,hbu,hrow,hnil⟩,hle,hB1,_⟩ hK
  have e:(List.finRange m).take m=List.finRange m:=List.take_of_length_le (by simp)
  have hl0:(List.finRange m).length=m:=by simp
  rw [hl0] at hrow
  refine key2 m D W1 (Nat.le_refl _) (fun i hi=>hle ⟨i,hi⟩ (List.mem_finRange _)) (fun h=>absurd h (Nat.lt_irrefl _)) ⟨u,hbu,by rw [e];exact hrow,hnil.trans ⟨fun h=>by rw [h] at hl0;simpa using hl0.symm,fun h=>by subst h;rfl⟩⟩ hB1 hK (by omega)
 case stop =>
  rintro D c pre W1 hD hpre ⟨rfl,pre',x,rfl,hx,⟨u,hbu,hrow,hnil⟩,hle,hB1⟩ hK
  have e:=pre_snoc hpre
  have hxm:x.val < m:=x.isLt
  have hle':∀ i,i < x.val->F (i+1)<=0:=fun i hi=>hle ⟨i,by omega⟩ (by rw [e];exact(mem_take_fin _).2 hi)
  have hpl':pre'.length=x.val:=by rw [e,fin_len (by omega)]
  rw [hpl'] at hrow
  have fin:=key2 x.val D W1 (by omega) hle' (fun _=>hx) ⟨u,hbu,by rw [←e];exact hrow,hnil.trans ⟨fun h=>by rw [h] at hpl';exact hpl'.symm,fun h=>List.eq_nil_of_length_eq_zero (by omega)⟩⟩ hB1 hK (by omega)
  clear hlk0 hcs0 hsp b0 b1 hsz key2 hle hle' hK hK2 hbu hrow hnil hB1
  gi_wp2
  exact fin
end Go.Proofs.YtbbdndfibjdcfaaGreat.Tm
namespace Go.Proofs.YtbbdndfibjdcfaaGreat.Tm
open Go Go.RowKit Go.Shelf
attribute [local go_sem] Oper.semAt_some
structure AB (w W:World) (t b6 b7:Nat) (ticks a b:Int):Prop where
 x5:Boxed W t 2 (.int .i64 ticks)
 x6:Boxed W b6 3 (.int .i64 a)
 x7:Boxed W b7 2 (.int .i64 b)
 n67:b6≠b7
 n56:t≠b6
 n57:t≠b7
 l6:t<=b6
 l7:t<=b7
 bel:Below t w W
theorem AB.keep{w W W':World}{t b6 b7:Nat}{ticks a b:Int}(h:AB w W t b6 b7 ticks a b)(hk:∀ (k:Nat) (cs:Array Value) (t:TypeId) (f:Nat×Nat),W.heap[k]?=some (Obj.cells cs t f)->W'.heap[k]?=some (Obj.cells cs t f))(hb:Below t W W'):AB w W' t b6 b7 ticks a b :=
 ⟨hk _ _ _ _ h.x5,hk _ _ _ _ h.x6,hk _ _ _ _ h.x7,h.n67,h.n56,h.n57,h.l6,h.l7,h.bel.trans hb⟩
theorem AB.below{w W W':World}{t b6 b7:Nat}{ticks a b:Int}(h:AB w W t b6 b7 ticks a b)(ht:t<=W.heap.size)(hb:Below W.heap.size W W'):AB w W' t b6 b7 ticks a b :=
 h.keep (fun k cs ty f hk=>(hb.block k (at_lt hk)).trans hk) (hb.mono ht)
theorem AB.put{w W:World}{t b6 b7:Nat}{ticks a b:Int}(h:AB w W t b6 b7 ticks a b)(a' b':Int):AB w ((W.setCell ⟨b6,0,none⟩ (.int .i64 a')).setCell ⟨b7,0,none⟩ (.int .i64 b')) t b6 b7 ticks a' b' :=
 ⟨Boxed.other (Boxed.other h.x5 h.n56) h.n57,Boxed.other (Boxed.set _ h.x6) h.n67,Boxed.set _ (Boxed.other h.x7 (Ne.symm h.n67)),h.n67,h.n56,h.n57,h.l6,h.l7,(h.bel.setCell (p:=⟨b6,0,none⟩) h.l6 _).setCell (p:=⟨b7,0,none⟩) h.l7 _⟩
theorem AB.of{w:World}{t:Nat}(ht:w.heap.size=t)(ticks:Int):AB w ((((w.alloc (Obj.cells #[.int .i64 ticks] 2)).alloc (Obj.cells #[.int .i64 0] 3)).alloc (Obj.cells #[.int .i64 ticks] 2)).drew) t (t+1) (t+1+1) ticks 0 ticks /\
  AB w ((((w.alloc (Obj.cells #[.int .i64 ticks] 2)).alloc (Obj.cells #[.int .i64 ticks] 2)).alloc (Obj.cells #[.int .i64 0] 3)).drew) t (t+1+1) (t+1) ticks 0 ticks:=by
 subst ht
 have hb:∀ o1 o2 o3:Obj,Below w.heap.size w ((((w.alloc o1).alloc o2).alloc o3).drew):=fun o1 o2 o3=>((((Below.refl _ w).alloc (Nat.le_refl _) _).alloc (by simp) _).alloc (by simp;omega) _).drew
 refine⟨⟨?_,?_,?_,by omega,by omega,by omega,by omega,by omega,hb _ _ _⟩,⟨?_,?_,?_,by omega,by omega,by omega,by omega,by omega,hb _ _ _⟩⟩
 ·exact((Boxed.new w _ _).alloc _).alloc _
 ·have:=(Boxed.new (w.alloc (Obj.cells #[.int .i64 ticks] 2)) 3 (.int .i64 0)).alloc (Obj.cells #[.int .i64 ticks] 2)
  rw [alloc_size] at this
  exact this
 ·have:=Boxed.new ((w.alloc (Obj.cells #[.int .i64 ticks] 2)).alloc (Obj.cells #[.int .i64 0] 3)) 2 (.int .i64 ticks)
  rw [alloc_size,alloc_size] at this
  exact this
 ·exact((Boxed.new w _ _).alloc _).alloc _
 ·have:=Boxed.new ((w.alloc (Obj.cells #[.int .i64 ticks] 2)).alloc (Obj.cells #[.int .i64 ticks] 2)) 3 (.int .i64 0)
  rw [alloc_size,alloc_size] at this
  exact this
 ·have:=(Boxed.new (w.alloc (Obj.cells #[.int .i64 ticks] 2)) 2 (.int .i64 ticks)).alloc (Obj.cells #[.int .i64 0] 3)
  rw [alloc_size] at this
  exact this
def lastP{m:Nat}(pre:List (Fin m)):Nat:=match pre.getLast? with | none=>0 | some x=>x.val+1
theorem lastP_snoc{m:Nat}(pre:List (Fin m))(x:Fin m):lastP (pre ++ [x])=x.val+1:=by simp [lastP]
theorem lastP_take{m k:Nat}(hk:k<=m):lastP ((List.finRange m).take k)=k:=by
 cases k with
 | zero=>simp [lastP]
 | succ k=>rw [fin_snoc (show k < m by omega),lastP_snoc]
theorem insert_next{B:Nat}{W:World}{p:Nat}{v:Value}{ds:List (Int×Int)}(h:Ch B W p v ds)(hl:ds.length < 1000){k:Nat}(hk:k≤ds.length)(x:Int×Int)(hB:B≤W.heap.size) :
    Calls Tryz.prog 194 #[v,.int .i64 (k:Int),.slice (some ⟨W.heap.size,0,none⟩) 1 1] (W.alloc (Obj.cells #[.int .i64 x.1,.int .i64 x.2] 219)).drew fun e w'=>∃ g2 c2,e=.returned (.slice (some ⟨g2,0,none⟩) (ds.length+1) c2)∧Ch B (w'.setCell ⟨p,1,none⟩ (.slice (some ⟨g2,0,none⟩) (ds.length+1) c2)) p (.slice (some ⟨g2,0,none⟩) (ds.length+1) c2) (ds.take k ++ x :: ds.drop k) ∧
      Buts (p :: v.ownBlock.toList) W (w'.setCell ⟨p,1,none⟩ (.slice (some ⟨g2,0,none⟩) (ds.length+1) c2))∧(v.ownBlock=some g2∨W.heap.size≤g2)∧w'.cell? ⟨p,1,none⟩=some v∧w'.frozen? ⟨p,1,none⟩=false∧Buts v.ownBlock.toList W w':=by
  have hb0:Below W.heap.size W (W.alloc (Obj.cells #[.int .i64 x.1,.int .i64 x.2] 219)).drew:=(alloc_below W _).drew
  have hx:Arg (W.alloc (Obj.cells #[.int .i64 x.1,.int .i64 x.2] 219)).drew W.heap.size x:=⟨219,alloc_at W _⟩
  refine(insert_any (h.own.below hb0) (by omega) hk hx (fun g hg=>by have:=(h.own.lt' hg).2;omega) (by have:=hb0.size;omega)).mono ?_
  rintro e w' ⟨g,cap,rfl,ho,hb,hg⟩
  have hb':Buts v.ownBlock.toList W w':=(Buts.of hb0).trans hb
  have hg':v.ownBlock=some g∨W.heap.size≤g:=hg.imp id (fun h=>by have:=hb0.size;omega)
  obtain ⟨h1, h2⟩ := h.lay ho hb' (by simp; omega) (fun b hbk => by have : g = b := by simpa [Value.ownBlock] using hbk
                                                                    subst this;exact hg')
  have e:w'.heap[p]?=W.heap[p]?:=hb'.block p (at_lt h.head) (fun hm=>h.ne (by simpa using hm) rfl)
  exact⟨g,cap,rfl,h1,h2,hg',by rw [World.cell?_of_block e];exact h.lnk,by rw [World.frozen?_of_block e];exact h.fp 1,hb'⟩
theorem Nx.putObj{B:Nat}{w w1:World}{p:Nat}{v:Value}{es:List (Int×Int)}{D:Nat}(h:Nx B w w1 p v es)(hd:w1.heap[D]?=some (.deferred (some [])))(hD:w.heap.size<=D):Nx B w (w1.putObj D (.deferred none)) p v es:=by
 obtain⟨v',hc,hb,hv⟩:=h
 have hbd:Buts [D] w1 (w1.putObj D (.deferred none)):=⟨rfl,rfl,rfl,by simp,fun k _ hk=>World.putObj_heap_other (by simpa using hk)⟩
 refine⟨v',hc.buts hbd (fun hm=>?_) (fun g hg hm=>?_),⟨hb.os,hb.tape,hb.output,Nat.le_trans hb.size (by simp),fun k hk hkl=>?_⟩,hv⟩
 ·have:p=D:=by simpa using hm
  rw [←this,hc.head] at hd;cases hd
 ·obtain⟨cur,hc2⟩:=hc.own.kind hg
  have:g=D:=by simpa using hm
  rw [←this,hc2] at hd;cases hd
 ·rw [World.putObj_heap_other (by omega)]
  exact hb.block k hk hkl
theorem add_any{B:Nat}{w:World}{p:Nat}{v:Value}{xs:List (Int×Int)}(h:Ch B w p v (dl 0 xs))(hb:Bnd xs)(hl:xs.length < 1000)(who ticks:Int)(ht0:0<=ticks)(ht1:ticks<=1073741824)(hB:B<=w.heap.size) :
  Calls Tryz.prog 172 #[.pointer (some ⟨p,1,none⟩),.int .i64 who,.int .i64 ticks] w fun e w'=>e=.returned (.tuple #[])/\Nx B w w' p v (dl 0 (ins xs (who,ticks))):=by
 obtain⟨sp,g,cap,hv,hsp,hgp,hgl,hcs⟩:=h.seq
 have hpl:=at_lt h.head
 have hlk:=h.lnk
 rw [hv] at hlk
 have HH:Hid (Ch B w p v (dl 0 xs)):=h
 have HV:Hid (v=.slice sp xs.length cap):=hv
 have HBD:Hid (Bnd xs):=hb
 have HF:Hid (∀ k,k < xs.length->IntKind.i64.wrap (lf xs k+bh xs k)=lf xs (k+1)):=fun k hk=>lf_wrap hb hk
 have HFB:Hid (∀ k,k<=xs.length->0<=lf xs k/\lf xs k<=1073741824):=fun k hk=>lf_bnd hb hk
 have hcs':Hid (∀ k,k < xs.length->w.cell? ⟨g,k * 2+1,none⟩=some (.int .i64 (bh xs k))):=fun k hk=>(hcs k hk).2
 clear h hv hgp hb hcs
 obtain⟨m,hm⟩:∃ m,xs.length=m:=⟨_,rfl⟩
 have HM:Hid (xs.length=m):=hm
 rw [hm] at hlk hcs' HF HFB hsp hl HV
 clear hm
 obtain⟨F,hFe⟩:∃ F:Nat->Int,F=lf xs:=⟨_,rfl⟩
 have HFE:Hid (F=lf xs):=hFe
 have hF0:Hid (F 0=0):=by show _=_;rw [hFe];exact lf_zero xs
 rw [←hFe] at HF HFB
 generalize bh xs=bd at HF hcs'
 clear hFe
 obtain⟨t,ht⟩:∃ t,w.heap.size=t:=⟨_,rfl⟩
 have HT:Hid (w.heap.size=t):=ht
 have hmx:Tryz.prog.follows .mixedOrders=true:=by kernel_rfl
 refine(callsIn_wide (n:=3)).1 ?_
 refine callsIn_of_wp_marks Tryz.func172 rfl trivial ?_ rfl
 simp only [Tryz.ntmps172,List.size_toArray,List.length_cons,List.length_nil,Nat.reduceAdd,Nat.reduceSub,Array.replicate_succ,Array.replicate_zero,List.push_toArray,List.append_toArray,List.nil_append,List.cons_append]
 gi_wp2
 rename_i K hK
 have key:∀ (b6 b7:Nat) (W:World),AB w W t b6 b7 ticks 0 ticks->K { tmps:=#[.pointer (some ⟨p,1,none⟩),.int .i64 who,.int .i64 ticks,undef,undef,.pointer (some ⟨t,0,none⟩),.pointer (some ⟨b6,0,none⟩),.pointer (some ⟨b7,0,none⟩),undef,undef,.int .i64 ticks,undef,undef,undef,undef,undef,undef,undef,undef,undef,undef,undef,undef,undef,undef,undef,undef,undef,undef,undef,undef,undef,undef,undef,undef,undef,undef,undef,undef,undef,undef,undef],defers:=[] } W:=by
  intro b6 b7 W hAB
  refine hK _ _ ?_
  have HLK:Hid (w.cell? ⟨p,1,none⟩=some (.slice sp m cap)):=hlk
  rw [ht] at hgl hpl hB
  clear hK hlk ht
  have HAB:Hid (AB w W t b6 b7 ticks 0 ticks):=hAB
  clear hAB
  obtain⟨WS,hWS⟩:∃ WS,W.heap.size=WS:=⟨_,rfl⟩
  gi_wp2_with (refine⟨trivial,?_⟩;gi_at_call 129;refine(callsIn_wide.2 (lefts_any p _)).mono ?_;rintro e w' ⟨rfl,rfl⟩)
  rename_i K2 hK2
  try rw [hWS]
  have key2:∀ (k D:Nat) (W:World),k<=m->(∀ i,i < k->F (i+1)<=ticks)->(k < m->ticks < F (k+1))->AB w W t b6 b7 ticks (k:Int) (ticks - F k)->W.heap[D]?=some (.deferred (some []))->t<=D->K2 { tmps:=#[.pointer (some ⟨p,1,none⟩),.int .i64 who,.int .i64 ticks,undef,undef,.pointer (some ⟨t,0,none⟩),.pointer (some ⟨b6,0,none⟩),.pointer (some ⟨b7,0,none⟩),undef,undef,.int .i64 ticks,.pointer (some ⟨p,1,none⟩),.func (.func 170) #[] #[.pointer (some ⟨WS,0,none⟩)],undef,undef,undef,undef,undef,undef,undef,undef,undef,undef,undef,undef,undef,undef,undef,undef,undef,undef,undef,undef,undef,undef,undef,undef,undef,undef,undef,undef,undef],defers:=[{ target:=.collected D,args:=#[] }] } W:=by
   intro k D W1 hkm hlow hhigh hab hdef hD
   refine hK2 _ _ ?_
   have hch:Ch B W1 p v (dl 0 xs):=HH.out.below (by rw [HT.out];exact hab.bel)
   have hdl:=dl_len xs 0
   have HI:=insert_next hch (show(dl 0 xs).length < 1000 by rw [hdl,HM.out];exact hl) (show k<=(dl 0 xs).length by rw [hdl,HM.out];exact hkm) (who,ticks - F k) (by have:=hab.bel.size;have:=HT.out;omega)
   rw [hdl,HM.out,HV.out] at HI
   have HI':Hid (Calls Tryz.prog 194 #[.slice sp m cap,.int .i64 (k:Int),.slice (some ⟨W1.heap.size,0,none⟩) 1 1] (W1.alloc (Obj.cells #[.int .i64 who,.int .i64 (ticks - F k)] 219)).drew fun e w'=>∃ g2 c2,e=.returned (.slice (some ⟨g2,0,none⟩) (m+1) c2)/\Ch B (w'.setCell ⟨p,1,none⟩ (.slice (some ⟨g2,0,none⟩) (m+1) c2)) p (.slice (some ⟨g2,0,none⟩) (m+1) c2) ((dl 0 xs).take k ++ (who,ticks - F k) :: (dl 0 xs).drop k) /\
     Buts (p :: (Value.slice sp m cap).ownBlock.toList) W1 (w'.setCell ⟨p,1,none⟩ (.slice (some ⟨g2,0,none⟩) (m+1) c2))/\((Value.slice sp m cap).ownBlock=some g2∨W1.heap.size<=g2)/\w'.cell? ⟨p,1,none⟩=some (.slice sp m cap)/\w'.frozen? ⟨p,1,none⟩=false/\Buts (Value.slice sp m cap).ownBlock.toList W1 w'):=HI
   have HDE:Hid (shAt (k+1) (-(ticks - F k)) ((dl 0 xs).take k ++ (who,ticks - F k) :: (dl 0 xs).drop k)=dl 0 (ins xs (who,ticks))):=by
    show _=_
    rw [ins_at xs k (who,ticks) (by rw [HM.out];exact hkm) (fun i hi=>by
     have:=hlow i hi
     rwa [HFE.out,lf_succ (by rw [HM.out];omega)] at this) (fun h=>by
     have:=hhigh (by rw [←HM.out];exact h)
     rwa [HFE.out,lf_succ h] at this),dl_ins xs k (by rw [HM.out];exact hkm)]
    unfold shAt
    have ht:((dl 0 xs).take k).length=k:=by rw [List.length_take,hdl,HM.out];omega
    have e1:((dl 0 xs).take k ++ (who,ticks - F k) :: (dl 0 xs).drop k)=((dl 0 xs).take k ++ [(who,ticks - F k)]) ++ (dl 0 xs).drop k:=by simp
    have hl2:((dl 0 xs).take k ++ [(who,ticks - F k)]).length=k+1:=by rw [List.length_append,ht];rfl
    rw [e1,List.take_left' hl2,List.drop_left' hl2,HFE.out]
    have e2:-(ticks - lf xs k)=lst 0 (List.take k xs) - ticks:=by unfold lf;omega
    rw [e2]
    simp [lf]
   have hFk:=HFB.out k hkm
   have HW:Hid (k+1 < ((dl 0 xs).take k ++ (who,ticks - F k) :: (dl 0 xs).drop k).length->IntKind.i64.wrap ((((dl 0 xs).take k ++ (who,ticks - F k) :: (dl 0 xs).drop k).getD (k+1) (0,0)).2+-(ticks - F k))=(((dl 0 xs).take k ++ (who,ticks - F k) :: (dl 0 xs).drop k).getD (k+1) (0,0)).2+-(ticks - F k)):=by
    intro h1
    have ht:((dl 0 xs).take k).length=k:=by rw [List.length_take,hdl,HM.out];omega
    have h2:k < xs.length:=by
     rw [List.length_append,ht,List.length_cons,List.length_drop,hdl] at h1
     omega
    have e:((dl 0 xs).take k ++ (who,ticks - F k) :: (dl 0 xs).drop k).getD (k+1) (0,0)=(dl 0 xs).getD k (0,0):=by
     rw [List.getD_eq_getElem?_getD,List.getElem?_append_right (by omega),ht,show k+1 - k=0+1 by omega,List.getElem?_cons_succ,List.getElem?_drop,Nat.add_zero,List.getD_eq_getElem?_getD]
    rw [e,dl_getD h2]
    have h3:=lf_bnd HBD.out (k:=k) (by omega)
    have h4:=lf_bnd HBD.out (k:=k+1) (by omega)
    unfold bh
    rw [IntKind.wrap_i64]
    omega
   have c6:=hab.x6.cell
   have c7:=hab.x7.cell
   have c1:=hch.lnk
   rw [HV.out] at c1
   have HA:Hid (AB w W1 t b6 b7 ticks (k:Int) (ticks - F k)):=hab
   have HCH:Hid (Ch B W1 p v (dl 0 xs)):=hch
   have hp6:p≠b6:=by have:=hab.l6;omega
   have hp7:p≠b7:=by have:=hab.l7;omega
   have HKC:Hid (∀ w2,Buts (Value.slice sp m cap).ownBlock.toList W1 w2->w2.cell? ⟨b6,0,none⟩=some (.int .i64 (k:Int))/\w2.cell? ⟨b7,0,none⟩=some (.int .i64 (ticks - F k))):=fun w2 hb2=>by
    have hk:∀ b ty z,Boxed W1 b ty z->ty≠219->w2.heap[b]?=W1.heap[b]?:=fun b ty z hbx hne=>hb2.block b hbx.lt (fun hm=>by
     have hm':v.ownBlock=some b:=by rw [HV.out];simpa using hm
     obtain⟨cur,hc⟩:=HCH.out.own.kind hm'
     rw [show W1.heap[b]?=_ from hbx] at hc
     simp only [Option.some.injEq,Obj.cells.injEq] at hc
     exact hne hc.2.1)
    exact⟨by rw [World.cell?_of_block (a:=⟨b6,0,none⟩) (hk b6 _ _ HA.out.x6 (by decide))];exact HA.out.x6.cell,by rw [World.cell?_of_block (a:=⟨b7,0,none⟩) (hk b7 _ _ HA.out.x7 (by decide))];exact HA.out.x7.cell⟩
   have hw1:IntKind.i64.wrap ((k:Int)+1)=(k:Int)+1:=by rw [IntKind.wrap_i64];omega
   have hw2:IntKind.i64.wrap (-(ticks - F k))=-(ticks - F k):=by rw [IntKind.wrap_i64];omega
   have HC:Hid (((k:Int)+1)=((k+1:Nat):Int)):=by show _=_;omega
   have HDF:Hid (W1.heap[D]?=some (.deferred (some []))):=hdef
   clear hab hdef hK2 hlow hhigh hsp HI hch hdl
   generalize hz:ticks - F k=z at *
   have n1:p≠W1.heap.size:=by have:=HCH.out.head;have:=at_lt this;omega
   have n2:b6≠W1.heap.size:=by have:=HA.out.x6.lt;omega
   have n3:b7≠W1.heap.size:=by have:=HA.out.x7.lt;omega
   have n1':=Ne.symm n1
   have nn1:=World.new_ne W1 ⟨p,1,none⟩ c1
   have kc6:∀ o:Obj,(W1.alloc o).cell? ⟨b6,0,none⟩=some (.int .i64 (k:Int)):=fun o=>((alloc_below W1 o).cell (p:=⟨b6,0,none⟩) HA.out.x6.lt).trans c6
   have kc7:∀ o:Obj,(W1.alloc o).cell? ⟨b7,0,none⟩=some (.int .i64 z):=fun o=>((alloc_below W1 o).cell (p:=⟨b7,0,none⟩) HA.out.x7.lt).trans c7
   have nn6:=World.new_ne W1 ⟨b6,0,none⟩ c6
   have nn7:=World.new_ne W1 ⟨b7,0,none⟩ c7
   have kc1:∀ o:Obj,(W1.alloc o).cell? ⟨p,1,none⟩=some (.slice sp m cap):=fun o=>(alloc_below W1 o).cell (p:=⟨p,1,none⟩) (by have:=at_lt HCH.out.head;exact this) |>.trans c1
   have hp6':=Ne.symm hp6
   have hp7':=Ne.symm hp7
   have n2':=Ne.symm n2
   have n3':=Ne.symm n3
   gi_wp2
   rename_i K3 hK3
   have key3:∀ (g2 c2:Nat) (w2:World),Ch B (w2.setCell ⟨p,1,none⟩ (.slice (some ⟨g2,0,none⟩) (m+1) c2)) p (.slice (some ⟨g2,0,none⟩) (m+1) c2) ((dl 0 xs).take k ++ (who,z) :: (dl 0 xs).drop k)->Buts (p :: (Value.slice sp m cap).ownBlock.toList) W1 (w2.setCell ⟨p,1,none⟩ (.slice (some ⟨g2,0,none⟩) (m+1) c2))->((Value.slice sp m cap).ownBlock=some g2∨W1.heap.size<=g2)->Buts (Value.slice sp m cap).ownBlock.toList W1 w2->K3 { tmps:=#[.pointer (some ⟨p,1,none⟩),.int .i64 who,.int .i64 ticks,undef,undef,.pointer (some ⟨t,0,none⟩),.pointer (some ⟨b6,0,none⟩),.pointer (some ⟨b7,0,none⟩),undef,undef,.int .i64 ticks,.pointer (some ⟨p,1,none⟩),.func (.func 170) #[] #[.pointer (some ⟨WS,0,none⟩)],undef,undef,undef,undef,undef,undef,undef,undef,undef,undef,.pointer (some ⟨p,1,none⟩),.pointer (some ⟨p,1,none⟩),.pointer (some ⟨p,1,none⟩),.pointer (some ⟨p,1,none⟩),.slice sp m cap,.int .i64 (k:Int),.int .i64 who,.int .i64 z,.agg #[.int .i64 who,.int .i64 z],.slice (some ⟨W1.heap.size,0,none⟩) 1 1,.slice (some ⟨g2,0,none⟩) (m+1) c2,.pointer (some ⟨p,1,none⟩),.pointer (some ⟨p,1,none⟩),undef,undef,undef,undef,undef,undef],defers:=[{ target:=.collected D,args:=#[] }] } (w2.setCell ⟨p,1,none⟩ (.slice (some ⟨g2,0,none⟩) (m+1) c2)):=by
    intro g2 c2 w2 hc2 hb2 hg2 hb1
    have HC2:=(show Hid _ from hc2)
    have HB2:=(show Hid _ from hb2)
    have HG2:Hid ((Value.slice sp m cap).ownBlock=some g2∨W1.heap.size<=g2):=hg2
    clear hc2 hb2 hg2
    have HWM:Hid (∀ w3,Buts (Value.slice (some ⟨g2,0,none⟩) (m+1) c2).ownBlock.toList (w2.setCell ⟨p,1,none⟩ (.slice (some ⟨g2,0,none⟩) (m+1) c2)) w3->Buts (p :: v.ownBlock.toList) w w3/\w3.heap[D]?=some (.deferred (some []))):=fun w3 hb3=>by
     have hbw:=HA.out.bel
     have h2:=HB2.out
     have hgg:=HG2.out
     rw [←HV.out] at h2 hgg
     have hs1:=hbw.size
     have hs2:=h2.size
     have hDl:=at_lt HDF.out
     have hnot:∀ k,k < W1.heap.size->k ∉ v.ownBlock.toList->k ∉ (Value.slice (some ⟨g2,0,none⟩) (m+1) c2).ownBlock.toList:=fun k hk hv hm=>by
      have e:k=g2:=by simpa [Value.ownBlock] using hm
      subst e
      rcases hgg with h | h
      ·exact hv (by rw [h];simp)
      ·omega
     refine⟨⟨(hb3.os.trans h2.os).trans hbw.os,(hb3.tape.trans h2.tape).trans hbw.tape,(hb3.output.trans h2.output).trans hbw.output,Nat.le_trans hs1 (Nat.le_trans hs2 hb3.size),fun b hb hbl=>?_⟩,?_⟩
     ·have hbW:b < W1.heap.size:=by omega
      rw [hb3.block b (by omega) (hnot b hbW (fun h=>hbl (List.mem_cons_of_mem _ h))),h2.block b hbW hbl]
      exact hbw.block b (by have:=HT.out;omega)
     ·have hDp:D ∉ p :: v.ownBlock.toList:=by
       intro hm
       rcases List.mem_cons.1 hm with e | e
       ·have:=HDF.out;rw [e,HCH.out.head] at this;cases this
       ·obtain⟨cur,hc⟩:=HCH.out.own.kind (g:=D) (by simpa using e)
        have:=HDF.out;rw [hc] at this;cases this
      rw [hb3.block D (by omega) (hnot D hDl (fun h=>hDp (List.mem_cons_of_mem _ h))),h2.block D hDl hDp]
      exact HDF.out
    have HVG:Hid (∀ b,(Value.slice (some ⟨g2,0,none⟩) (m+1) c2).ownBlock=some b->v.ownBlock=some b∨w.heap.size<=b):=fun b hb=>by
     have e:g2=b:=by simpa [Value.ownBlock] using hb
     subst e
     have hgg:=HG2.out
     rw [←HV.out] at hgg
     exact hgg.imp id (fun h=>by have:=HA.out.bel.size;omega)
    have k67:=HKC.out w2 hb1
    obtain⟨k6,k7⟩:=k67
    have r6:(w2.setCell ⟨p,1,none⟩ (.slice (some ⟨g2,0,none⟩) (m+1) c2)).cell? ⟨b6,0,none⟩=some (.int .i64 (k:Int)):=by rw [World.cell?_setCell_other _ _ _ _ (by first |(simp;done) |(simp;omega))];exact k6
    have r7:(w2.setCell ⟨p,1,none⟩ (.slice (some ⟨g2,0,none⟩) (m+1) c2)).cell? ⟨b7,0,none⟩=some (.int .i64 z):=by rw [World.cell?_setCell_other _ _ _ _ (by first |(simp;done) |(simp;omega))];exact k7
    refine hK3 _ _ ?_
    refine wpIn_wide.2 ?_
    clear HB2 HG2 HKC kc1 kc6 kc7 HI' hb1 k6 k7 hK3
    generalize w2.setCell ⟨p,1,none⟩ (.slice (some ⟨g2,0,none⟩) (m+1) c2)=w22 at *
    go_wp2_with (go_at_call 128;rw [HC.out];refine(shift_any HC2.out (k+1) (-z) HW.out).mono ?_;rintro e w3 ⟨rfl,hc3,hb3⟩;obtain⟨hbw3,hD3⟩:=HWM.out w3 hb3;have HNX:Hid (Nx B w w3 p v (dl 0 (ins xs (who,ticks)))):=⟨_,by rw [←HDE.out];exact hc3,hbw3,HVG.out⟩;have HD3:Hid (w3.heap[D]?=some (.deferred (some []))):=hD3;clear hc3 hb3 hbw3 hD3)
    refine⟨by simp,.inl ⟨_,_,rfl,run_takeDeferred HD3.out,?_⟩⟩
    exact⟨_,results_none rfl _ _ _,rfl,HNX.out.putObj HD3.out (by have:=HT.out;omega)⟩
   clear hK3 HDE HW HCH HA HDF HFB HF
   refine wpIn_mono (Q:=fun e a w=>match e with | .normal=>K3 a w | _=>False) ?_ (fun e a w h=>by cases e <;> first | exact h | exact h.elim)
   refine wpIn_region_any hmx ?_
   try (change wpAnyIn _ _ _ _ _ _ _ _ _ (World.drew _))
   refine wpAnyIn_take (i:=0) (v:=?vb1) rfl rfl (by kernel_rfl) (by kernel_rfl) (by kernel_rfl) (fun _ _ _ h=>h) ⟨Or.inl ⟨by rfl,?hyb1⟩,fun _=>rfl⟩ ?restb1
   case hyb1=>(intro w;go_simp;try with_reducible rfl)
   refine wpAnyIn_take (i:=1) (v:=?vb2) rfl rfl (by kernel_rfl) (by kernel_rfl) (by kernel_rfl) (fun _ _ _ h=>h) ⟨Or.inl ⟨by rfl,?hyb2⟩,fun _=>rfl⟩ ?restb2
   case hyb2=>(intro w;go_simp;try with_reducible rfl)
   refine wpAnyIn_take (i:=2) (v:=?vb3) rfl rfl (by kernel_rfl) (by kernel_rfl) (by kernel_rfl) (fun _ _ _ h=>h) ⟨Or.inl ⟨by rfl,?hyb3⟩,fun _=>rfl⟩ ?restb3
   case hyb3=>(intro w;go_simp;try with_reducible rfl)
   refine wpAnyIn_take (i:=3) (v:=?vb4) rfl rfl (by kernel_rfl) (by kernel_rfl) (by kernel_rfl) (fun _ _ _ h=>h) ⟨Or.inl ⟨by rfl,?hyb4⟩,fun _=>rfl⟩ ?restb4
   case hyb4=>(intro w;go_simp;try with_reducible rfl)
   refine wpAnyIn_take (i:=6) (v:=?vb5) rfl rfl (by kernel_rfl) (by kernel_rfl) (by kernel_rfl) (fun _ _ _ h=>h) ⟨Or.inl ⟨by rfl,?hyb5⟩,fun _=>rfl⟩ ?restb5
   case hyb5=>(intro w;go_simp;try with_reducible rfl)
   refine wpAnyIn_ready (rs:=[4,5,7]) (by kernel_rfl) (by simp) ?_
   refine AllReadyIn.cons rfl (fun K hK=>?_) ?_
   ·go_simp
    refine hK _ _ ?_
    clear hK K
    refine wpAnyIn_ready (rs:=[5,7]) (by kernel_rfl) (by simp) ?_
    refine AllReadyIn.cons rfl (fun K hK=>?_) ?_
    ·go_simp
     refine hK _ _ ?_
     clear hK K
     refine wpAnyIn_ready (rs:=[7]) (by kernel_rfl) (by simp) ?_
     refine AllReadyIn.cons rfl (fun K hK=>?_) AllReadyIn.nil
     go_simp
     refine hK _ _ ?_
     clear hK K
     refine wpAnyIn_take (i:=8) (v:=?vb6) rfl rfl (by kernel_rfl) (by kernel_rfl) (by kernel_rfl) (fun _ _ _ h=>h) ⟨Or.inl ⟨by rfl,?hyb6⟩,fun _=>rfl⟩ ?restb6
     case hyb6=>(intro w;go_simp;try with_reducible rfl)
     refine wpAnyIn_ready (rs:=[9]) (by kernel_rfl) (by simp) ?_
     refine AllReadyIn.cons rfl (fun K hK=>?_) AllReadyIn.nil
     go_simp
     refine hK _ _ ?_
     clear hK K
     refine wpAnyIn_ready (rs:=[10]) (by kernel_rfl) (by simp) ?_
     refine AllReadyIn.cons rfl (fun K hK=>?_) AllReadyIn.nil
     gi_wp2_with (refine⟨trivial,?_⟩;gi_at_call 194;refine(callsIn_wide.2 HI'.out).mono ?_;rintro e w2 ⟨g2,c2,rfl,hc2,hb2,hg2,k1,k2,hb1⟩;have HK3:Hid (K3 { tmps:=#[.pointer (some ⟨p,1,none⟩),.int .i64 who,.int .i64 ticks,undef,undef,.pointer (some ⟨t,0,none⟩),.pointer (some ⟨b6,0,none⟩),.pointer (some ⟨b7,0,none⟩),undef,undef,.int .i64 ticks,.pointer (some ⟨p,1,none⟩),.func (.func 170) #[] #[.pointer (some ⟨WS,0,none⟩)],undef,undef,undef,undef,undef,undef,undef,undef,undef,undef,.pointer (some ⟨p,1,none⟩),.pointer (some ⟨p,1,none⟩),.pointer (some ⟨p,1,none⟩),.pointer (some ⟨p,1,none⟩),.slice sp m cap,.int .i64 (k:Int),.int .i64 who,.int .i64 z,.agg #[.int .i64 who,.int .i64 z],.slice (some ⟨W1.heap.size,0,none⟩) 1 1,.slice (some ⟨g2,0,none⟩) (m+1) c2,.pointer (some ⟨p,1,none⟩),.pointer (some ⟨p,1,none⟩),undef,undef,undef,undef,undef,undef],defers:=[{ target:=.collected D,args:=#[] }] } (w2.setCell ⟨p,1,none⟩ (.slice (some ⟨g2,0,none⟩) (m+1) c2))):=key3 g2 c2 w2 hc2 hb2 hg2 hb1;clear hc2 hb2 hg2 hb1)
     refine wpAnyIn_take (i:=11) (v:=?vb7) rfl rfl (by kernel_rfl) (by kernel_rfl) (by kernel_rfl) (fun _ _ _ h=>h) ⟨Or.inl ⟨by rfl,?hyb7⟩,fun _=>rfl⟩ ?restb7
     case hyb7=>(intro w;go_simp;try with_reducible rfl)
     refine wpAnyIn_take (i:=12) (v:=?vb8) rfl rfl (by kernel_rfl) (by kernel_rfl) (by kernel_rfl) (fun _ _ _ h=>h) ⟨Or.inl ⟨by rfl,?hyb8⟩,fun _=>rfl⟩ ?restb8
     case hyb8=>(intro w;go_simp;try with_reducible rfl)
     refine wpAnyIn_ready (rs:=[13]) (by kernel_rfl) (by simp) ?_
     refine AllReadyIn.cons rfl (fun K hK=>?_) AllReadyIn.nil
     go_simp
     refine hK _ _ ?_
     clear hK K
     refine wpAnyIn_done (by kernel_rfl) ?_ _
     exact HK3.out
    refine AllReadyIn.cons rfl (fun K hK=>?_) AllReadyIn.nil
    go_simp
    refine hK _ _ ?_
    clear hK K
    refine wpAnyIn_take (i:=8) (v:=?vb9) rfl rfl (by kernel_rfl) (by kernel_rfl) (by kernel_rfl) (fun _ _ _ h=>h) ⟨Or.inl ⟨by rfl,?hyb9⟩,fun _=>rfl⟩ ?restb9
    case hyb9=>(intro w;go_simp;try with_reducible rfl)
    refine wpAnyIn_ready (rs:=[5,9]) (by kernel_rfl) (by simp) ?_
    refine AllReadyIn.cons rfl (fun K hK=>?_) ?_
    ·go_simp
     refine hK _ _ ?_
     clear hK K
     refine wpAnyIn_ready (rs:=[9]) (by kernel_rfl) (by simp) ?_
     refine AllReadyIn.cons rfl (fun K hK=>?_) AllReadyIn.nil
     go_simp
     refine hK _ _ ?_
     clear hK K
     refine wpAnyIn_ready (rs:=[10]) (by kernel_rfl) (by simp) ?_
     refine AllReadyIn.cons rfl (fun K hK=>?_) AllReadyIn.nil
     gi_wp2_with (refine⟨trivial,?_⟩;gi_at_call 194;refine(callsIn_wide.2 HI'.out).mono ?_;rintro e w2 ⟨g2,c2,rfl,hc2,hb2,hg2,k1,k2,hb1⟩;have HK3:Hid (K3 { tmps:=#[.pointer (some ⟨p,1,none⟩),.int .i64 who,.int .i64 ticks,undef,undef,.pointer (some ⟨t,0,none⟩),.pointer (some ⟨b6,0,none⟩),.pointer (some ⟨b7,0,none⟩),undef,undef,.int .i64 ticks,.pointer (some ⟨p,1,none⟩),.func (.func 170) #[] #[.pointer (some ⟨WS,0,none⟩)],undef,undef,undef,undef,undef,undef,undef,undef,undef,undef,.pointer (some ⟨p,1,none⟩),.pointer (some ⟨p,1,none⟩),.pointer (some ⟨p,1,none⟩),.pointer (some ⟨p,1,none⟩),.slice sp m cap,.int .i64 (k:Int),.int .i64 who,.int .i64 z,.agg #[.int .i64 who,.int .i64 z],.slice (some ⟨W1.heap.size,0,none⟩) 1 1,.slice (some ⟨g2,0,none⟩) (m+1) c2,.pointer (some ⟨p,1,none⟩),.pointer (some ⟨p,1,none⟩),undef,undef,undef,undef,undef,undef],defers:=[{ target:=.collected D,args:=#[] }] } (w2.setCell ⟨p,1,none⟩ (.slice (some ⟨g2,0,none⟩) (m+1) c2))):=key3 g2 c2 w2 hc2 hb2 hg2 hb1;clear hc2 hb2 hg2 hb1)
     refine wpAnyIn_take (i:=11) (v:=?vb10) rfl rfl (by kernel_rfl) (by kernel_rfl) (by kernel_rfl) (fun _ _ _ h=>h) ⟨Or.inl ⟨by rfl,?hyb10⟩,fun _=>rfl⟩ ?restb10
     case hyb10=>(intro w;go_simp;try with_reducible rfl)
     refine wpAnyIn_take (i:=12) (v:=?vb11) rfl rfl (by kernel_rfl) (by kernel_rfl) (by kernel_rfl) (fun _ _ _ h=>h) ⟨Or.inl ⟨by rfl,?hyb11⟩,fun _=>rfl⟩ ?restb11
     case hyb11=>(intro w;go_simp;try with_reducible rfl)
     refine wpAnyIn_ready (rs:=[13]) (by kernel_rfl) (by simp) ?_
     refine AllReadyIn.cons rfl (fun K hK=>?_) AllReadyIn.nil
     go_simp
     refine hK _ _ ?_
     clear hK K
     refine wpAnyIn_done (by kernel_rfl) ?_ _
     exact HK3.out
    refine AllReadyIn.cons rfl (fun K hK=>?_) AllReadyIn.nil
    go_simp
    refine hK _ _ ?_
    clear hK K
    refine wpAnyIn_ready (rs:=[5]) (by kernel_rfl) (by simp) ?_
    refine AllReadyIn.cons rfl (fun K hK=>?_) AllReadyIn.nil
    go_simp
    refine hK _ _ ?_
    clear hK K
    refine wpAnyIn_ready (rs:=[10]) (by kernel_rfl) (by simp) ?_
    refine AllReadyIn.cons rfl (fun K hK=>?_) AllReadyIn.nil
    gi_wp2_with (refine⟨trivial,?_⟩;gi_at_call 194;refine(callsIn_wide.2 HI'.out).mono ?_;rintro e w2 ⟨g2,c2,rfl,hc2,hb2,hg2,k1,k2,hb1⟩;have HK3:Hid (K3 { tmps:=#[.pointer (some ⟨p,1,none⟩),.int .i64 who,.int .i64 ticks,undef,undef,.pointer (some ⟨t,0,none⟩),.pointer (some ⟨b6,0,none⟩),.pointer (some ⟨b7,0,none⟩),undef,undef,.int .i64 ticks,.pointer (some ⟨p,1,none⟩),.func (.func 170) #[] #[.pointer (some ⟨WS,0,none⟩)],undef,undef,undef,undef,undef,undef,undef,undef,undef,undef,.pointer (some ⟨p,1,none⟩),.pointer (some ⟨p,1,none⟩),.pointer (some ⟨p,1,none⟩),.pointer (some ⟨p,1,none⟩),.slice sp m cap,.int .i64 (k:Int),.int .i64 who,.int .i64 z,.agg #[.int .i64 who,.int .i64 z],.slice (some ⟨W1.heap.size,0,none⟩) 1 1,.slice (some ⟨g2,0,none⟩) (m+1) c2,.pointer (some ⟨p,1,none⟩),.pointer (some ⟨p,1,none⟩),undef,undef,undef,undef,undef,undef],defers:=[{ target:=.collected D,args:=#[] }] } (w2.setCell ⟨p,1,none⟩ (.slice (some ⟨g2,0,none⟩) (m+1) c2))):=key3 g2 c2 w2 hc2 hb2 hg2 hb1;clear hc2 hb2 hg2 hb1)
    refine wpAnyIn_take (i:=11) (v:=?vb12) rfl rfl (by kernel_rfl) (by kernel_rfl) (by kernel_rfl) (fun _ _ _ h=>h) ⟨Or.inl ⟨by rfl,?hyb12⟩,fun _=>rfl⟩ ?restb12
    case hyb12=>(intro w;go_simp;try with_reducible rfl)
    refine wpAnyIn_take (i:=12) (v:=?vb13) rfl rfl (by kernel_rfl) (by kernel_rfl) (by kernel_rfl) (fun _ _ _ h=>h) ⟨Or.inl ⟨by rfl,?hyb13⟩,fun _=>rfl⟩ ?restb13
    case hyb13=>(intro w;go_simp;try with_reducible rfl)
    refine wpAnyIn_ready (rs:=[13]) (by kernel_rfl) (by simp) ?_
    refine AllReadyIn.cons rfl (fun K hK=>?_) AllReadyIn.nil
    go_simp
    refine hK _ _ ?_
    clear hK K
    refine wpAnyIn_done (by kernel_rfl) ?_ _
    exact HK3.out
   refine AllReadyIn.cons rfl (fun K hK=>?_) ?_
   ·go_simp
    refine hK _ _ ?_
    clear hK K
    refine wpAnyIn_ready (rs:=[4,7]) (by kernel_rfl) (by simp) ?_
    refine AllReadyIn.cons rfl (fun K hK=>?_) ?_
    ·go_simp
     refine hK _ _ ?_
     clear hK K
     refine wpAnyIn_ready (rs:=[7]) (by kernel_rfl) (by simp) ?_
     refine AllReadyIn.cons rfl (fun K hK=>?_) AllReadyIn.nil
     go_simp
     refine hK _ _ ?_
     clear hK K
     refine wpAnyIn_take (i:=8) (v:=?vb14) rfl rfl (by kernel_rfl) (by kernel_rfl) (by kernel_rfl) (fun _ _ _ h=>h) ⟨Or.inl ⟨by rfl,?hyb14⟩,fun _=>rfl⟩ ?restb14
     case hyb14=>(intro w;go_simp;try with_reducible rfl)
     refine wpAnyIn_ready (rs:=[9]) (by kernel_rfl) (by simp) ?_
     refine AllReadyIn.cons rfl (fun K hK=>?_) AllReadyIn.nil
     go_simp
     refine hK _ _ ?_
     clear hK K
     refine wpAnyIn_ready (rs:=[10]) (by kernel_rfl) (by simp) ?_
     refine AllReadyIn.cons rfl (fun K hK=>?_) AllReadyIn.nil
     gi_wp2_with (refine⟨trivial,?_⟩;gi_at_call 194;refine(callsIn_wide.2 HI'.out).mono ?_;rintro e w2 ⟨g2,c2,rfl,hc2,hb2,hg2,k1,k2,hb1⟩;have HK3:Hid (K3 { tmps:=#[.pointer (some ⟨p,1,none⟩),.int .i64 who,.int .i64 ticks,undef,undef,.pointer (some ⟨t,0,none⟩),.pointer (some ⟨b6,0,none⟩),.pointer (some ⟨b7,0,none⟩),undef,undef,.int .i64 ticks,.pointer (some ⟨p,1,none⟩),.func (.func 170) #[] #[.pointer (some ⟨WS,0,none⟩)],undef,undef,undef,undef,undef,undef,undef,undef,undef,undef,.pointer (some ⟨p,1,none⟩),.pointer (some ⟨p,1,none⟩),.pointer (some ⟨p,1,none⟩),.pointer (some ⟨p,1,none⟩),.slice sp m cap,.int .i64 (k:Int),.int .i64 who,.int .i64 z,.agg #[.int .i64 who,.int .i64 z],.slice (some ⟨W1.heap.size,0,none⟩) 1 1,.slice (some ⟨g2,0,none⟩) (m+1) c2,.pointer (some ⟨p,1,none⟩),.pointer (some ⟨p,1,none⟩),undef,undef,undef,undef,undef,undef],defers:=[{ target:=.collected D,args:=#[] }] } (w2.setCell ⟨p,1,none⟩ (.slice (some ⟨g2,0,none⟩) (m+1) c2))):=key3 g2 c2 w2 hc2 hb2 hg2 hb1;clear hc2 hb2 hg2 hb1)
     refine wpAnyIn_take (i:=11) (v:=?vb15) rfl rfl (by kernel_rfl) (by kernel_rfl) (by kernel_rfl) (fun _ _ _ h=>h) ⟨Or.inl ⟨by rfl,?hyb15⟩,fun _=>rfl⟩ ?restb15
     case hyb15=>(intro w;go_simp;try with_reducible rfl)
     refine wpAnyIn_take (i:=12) (v:=?vb16) rfl rfl (by kernel_rfl) (by kernel_rfl) (by kernel_rfl) (fun _ _ _ h=>h) ⟨Or.inl ⟨by rfl,?hyb16⟩,fun _=>rfl⟩ ?restb16
     case hyb16=>(intro w;go_simp;try with_reducible rfl)
     refine wpAnyIn_ready (rs:=[13]) (by kernel_rfl) (by simp) ?_
     refine AllReadyIn.cons rfl (fun K hK=>?_) AllReadyIn.nil
     go_simp
     refine hK _ _ ?_
     clear hK K
     refine wpAnyIn_done (by kernel_rfl) ?_ _
     exact HK3.out
    refine AllReadyIn.cons rfl (fun K hK=>?_) AllReadyIn.nil
    go_simp
    refine hK _ _ ?_
    clear hK K
    refine wpAnyIn_take (i:=8) (v:=?vb17) rfl rfl (by kernel_rfl) (by kernel_rfl) (by kernel_rfl) (fun _ _ _ h=>h) ⟨Or.inl ⟨by rfl,?hyb17⟩,fun _=>rfl⟩ ?restb17
    case hyb17=>(intro w;go_simp;try with_reducible rfl)
    refine wpAnyIn_ready (rs:=[4,9]) (by kernel_rfl) (by simp) ?_
    refine AllReadyIn.cons rfl (fun K hK=>?_) ?_
    ·go_simp
     refine hK _ _ ?_
     clear hK K
     refine wpAnyIn_ready (rs:=[9]) (by kernel_rfl) (by simp) ?_
     refine AllReadyIn.cons rfl (fun K hK=>?_) AllReadyIn.nil
     go_simp
     refine hK _ _ ?_
     clear hK K
     refine wpAnyIn_ready (rs:=[10]) (by kernel_rfl) (by simp) ?_
     refine AllReadyIn.cons rfl (fun K hK=>?_) AllReadyIn.nil
     gi_wp2_with (refine⟨trivial,?_⟩;gi_at_call 194;refine(callsIn_wide.2 HI'.out).mono ?_;rintro e w2 ⟨g2,c2,rfl,hc2,hb2,hg2,k1,k2,hb1⟩;have HK3:Hid (K3 { tmps:=#[.pointer (some ⟨p,1,none⟩),.int .i64 who,.int .i64 ticks,undef,undef,.pointer (some ⟨t,0,none⟩),.pointer (some ⟨b6,0,none⟩),.pointer (some ⟨b7,0,none⟩),undef,undef,.int .i64 ticks,.pointer (some ⟨p,1,none⟩),.func (.func 170) #[] #[.pointer (some ⟨WS,0,none⟩)],undef,undef,undef,undef,undef,undef,undef,undef,undef,undef,.pointer (some ⟨p,1,none⟩),.pointer (some ⟨p,1,none⟩),.pointer (some ⟨p,1,none⟩),.pointer (some ⟨p,1,none⟩),.slice sp m cap,.int .i64 (k:Int),.int .i64 who,.int .i64 z,.agg #[.int .i64 who,.int .i64 z],.slice (some ⟨W1.heap.size,0,none⟩) 1 1,.slice (some ⟨g2,0,none⟩) (m+1) c2,.pointer (some ⟨p,1,none⟩),.pointer (some ⟨p,1,none⟩),undef,undef,undef,undef,undef,undef],defers:=[{ target:=.collected D,args:=#[] }] } (w2.setCell ⟨p,1,none⟩ (.slice (some ⟨g2,0,none⟩) (m+1) c2))):=key3 g2 c2 w2 hc2 hb2 hg2 hb1;clear hc2 hb2 hg2 hb1)
     refine wpAnyIn_take (i:=11) (v:=?vb18) rfl rfl (by kernel_rfl) (by kernel_rfl) (by kernel_rfl) (fun _ _ _ h=>h) ⟨Or.inl ⟨by rfl,?hyb18⟩,fun _=>rfl⟩ ?restb18
     case hyb18=>(intro w;go_simp;try with_reducible rfl)
     refine wpAnyIn_take (i:=12) (v:=?vb19) rfl rfl (by kernel_rfl) (by kernel_rfl) (by kernel_rfl) (fun _ _ _ h=>h) ⟨Or.inl ⟨by rfl,?hyb19⟩,fun _=>rfl⟩ ?restb19
     case hyb19=>(intro w;go_simp;try with_reducible rfl)
     refine wpAnyIn_ready (rs:=[13]) (by kernel_rfl) (by simp) ?_
     refine AllReadyIn.cons rfl (fun K hK=>?_) AllReadyIn.nil
     go_simp
     refine hK _ _ ?_
     clear hK K
     refine wpAnyIn_done (by kernel_rfl) ?_ _
     exact HK3.out
    refine AllReadyIn.cons rfl (fun K hK=>?_) AllReadyIn.nil
    go_simp
    refine hK _ _ ?_
    clear hK K
    refine wpAnyIn_ready (rs:=[4]) (by kernel_rfl) (by simp) ?_
    refine AllReadyIn.cons rfl (fun K hK=>?_) AllReadyIn.nil
    go_simp
    refine hK _ _ ?_
    clear hK K
    refine wpAnyIn_ready (rs:=[10]) (by kernel_rfl) (by simp) ?_
    refine AllReadyIn.cons rfl (fun K hK=>?_) AllReadyIn.nil
    gi_wp2_with (refine⟨trivial,?_⟩;gi_at_call 194;refine(callsIn_wide.2 HI'.out).mono ?_;rintro e w2 ⟨g2,c2,rfl,hc2,hb2,hg2,k1,k2,hb1⟩;have HK3:Hid (K3 { tmps:=#[.pointer (some ⟨p,1,none⟩),.int .i64 who,.int .i64 ticks,undef,undef,.pointer (some ⟨t,0,none⟩),.pointer (some ⟨b6,0,none⟩),.pointer (some ⟨b7,0,none⟩),undef,undef,.int .i64 ticks,.pointer (some ⟨p,1,none⟩),.func (.func 170) #[] #[.pointer (some ⟨WS,0,none⟩)],undef,undef,undef,undef,undef,undef,undef,undef,undef,undef,.pointer (some ⟨p,1,none⟩),.pointer (some ⟨p,1,none⟩),.pointer (some ⟨p,1,none⟩),.pointer (some ⟨p,1,none⟩),.slice sp m cap,.int .i64 (k:Int),.int .i64 who,.int .i64 z,.agg #[.int .i64 who,.int .i64 z],.slice (some ⟨W1.heap.size,0,none⟩) 1 1,.slice (some ⟨g2,0,none⟩) (m+1) c2,.pointer (some ⟨p,1,none⟩),.pointer (some ⟨p,1,none⟩),undef,undef,undef,undef,undef,undef],defers:=[{ target:=.collected D,args:=#[] }] } (w2.setCell ⟨p,1,none⟩ (.slice (some ⟨g2,0,none⟩) (m+1) c2))):=key3 g2 c2 w2 hc2 hb2 hg2 hb1;clear hc2 hb2 hg2 hb1)
    refine wpAnyIn_take (i:=11) (v:=?vb20) rfl rfl (by kernel_rfl) (by kernel_rfl) (by kernel_rfl) (fun _ _ _ h=>h) ⟨Or.inl ⟨by rfl,?hyb20⟩,fun _=>rfl⟩ ?restb20
    case hyb20=>(intro w;go_simp;try with_reducible rfl)
    refine wpAnyIn_take (i:=12) (v:=?vb21) rfl rfl (by kernel_rfl) (by kernel_rfl) (by kernel_rfl) (fun _ _ _ h=>h) ⟨Or.inl ⟨by rfl,?hyb21⟩,fun _=>rfl⟩ ?restb21
    case hyb21=>(intro w;go_simp;try with_reducible rfl)
    refine wpAnyIn_ready (rs:=[13]) (by kernel_rfl) (by simp) ?_
    refine AllReadyIn.cons rfl (fun K hK=>?_) AllReadyIn.nil
    go_simp
    refine hK _ _ ?_
    clear hK K
    refine wpAnyIn_done (by kernel_rfl) ?_ _
    exact HK3.out
   refine AllReadyIn.cons rfl (fun K hK=>?_) AllReadyIn.nil
   go_simp
   refine hK _ _ ?_
   clear hK K
   refine wpAnyIn_take (i:=8) (v:=?vb22) rfl rfl (by kernel_rfl) (by kernel_rfl) (by kernel_rfl) (fun _ _ _ h=>h) ⟨Or.inl ⟨by rfl,?hyb22⟩,fun _=>rfl⟩ ?restb22
   case hyb22=>(intro w;go_simp;try with_reducible rfl)
   refine wpAnyIn_ready (rs:=[4,5,9]) (by kernel_rfl) (by simp) ?_
   refine AllReadyIn.cons rfl (fun K hK=>?_) ?_
   ·go_simp
    refine hK _ _ ?_
    clear hK K
    refine wpAnyIn_ready (rs:=[5,9]) (by kernel_rfl) (by simp) ?_
    refine AllReadyIn.cons rfl (fun K hK=>?_) ?_
    ·go_simp
     refine hK _ _ ?_
     clear hK K
     refine wpAnyIn_ready (rs:=[9]) (by kernel_rfl) (by simp) ?_
     refine AllReadyIn.cons rfl (fun K hK=>?_) AllReadyIn.nil
     go_simp
     refine hK _ _ ?_
     clear hK K
     refine wpAnyIn_ready (rs:=[10]) (by kernel_rfl) (by simp) ?_
     refine AllReadyIn.cons rfl (fun K hK=>?_) AllReadyIn.nil
     gi_wp2_with (refine⟨trivial,?_⟩;gi_at_call 194;refine(callsIn_wide.2 HI'.out).mono ?_;rintro e w2 ⟨g2,c2,rfl,hc2,hb2,hg2,k1,k2,hb1⟩;have HK3:Hid (K3 { tmps:=#[.pointer (some ⟨p,1,none⟩),.int .i64 who,.int .i64 ticks,undef,undef,.pointer (some ⟨t,0,none⟩),.pointer (some ⟨b6,0,none⟩),.pointer (some ⟨b7,0,none⟩),undef,undef,.int .i64 ticks,.pointer (some ⟨p,1,none⟩),.func (.func 170) #[] #[.pointer (some ⟨WS,0,none⟩)],undef,undef,undef,undef,undef,undef,undef,undef,undef,undef,.pointer (some ⟨p,1,none⟩),.pointer (some ⟨p,1,none⟩),.pointer (some ⟨p,1,none⟩),.pointer (some ⟨p,1,none⟩),.slice sp m cap,.int .i64 (k:Int),.int .i64 who,.int .i64 z,.agg #[.int .i64 who,.int .i64 z],.slice (some ⟨W1.heap.size,0,none⟩) 1 1,.slice (some ⟨g2,0,none⟩) (m+1) c2,.pointer (some ⟨p,1,none⟩),.pointer (some ⟨p,1,none⟩),undef,undef,undef,undef,undef,undef],defers:=[{ target:=.collected D,args:=#[] }] } (w2.setCell ⟨p,1,none⟩ (.slice (some ⟨g2,0,none⟩) (m+1) c2))):=key3 g2 c2 w2 hc2 hb2 hg2 hb1;clear hc2 hb2 hg2 hb1)
     refine wpAnyIn_take (i:=11) (v:=?vb23) rfl rfl (by kernel_rfl) (by kernel_rfl) (by kernel_rfl) (fun _ _ _ h=>h) ⟨Or.inl ⟨by rfl,?hyb23⟩,fun _=>rfl⟩ ?restb23
     case hyb23=>(intro w;go_simp;try with_reducible rfl)
     refine wpAnyIn_take (i:=12) (v:=?vb24) rfl rfl (by kernel_rfl) (by kernel_rfl) (by kernel_rfl) (fun _ _ _ h=>h) ⟨Or.inl ⟨by rfl,?hyb24⟩,fun _=>rfl⟩ ?restb24
     case hyb24=>(intro w;go_simp;try with_reducible rfl)
     refine wpAnyIn_ready (rs:=[13]) (by kernel_rfl) (by simp) ?_
     refine AllReadyIn.cons rfl (fun K hK=>?_) AllReadyIn.nil
     go_simp
     refine hK _ _ ?_
     clear hK K
     refine wpAnyIn_done (by kernel_rfl) ?_ _
     exact HK3.out
    refine AllReadyIn.cons rfl (fun K hK=>?_) AllReadyIn.nil
    go_simp
    refine hK _ _ ?_
    clear hK K
    refine wpAnyIn_ready (rs:=[5]) (by kernel_rfl) (by simp) ?_
    refine AllReadyIn.cons rfl (fun K hK=>?_) AllReadyIn.nil
    go_simp
    refine hK _ _ ?_
    clear hK K
    refine wpAnyIn_ready (rs:=[10]) (by kernel_rfl) (by simp) ?_
    refine AllReadyIn.cons rfl (fun K hK=>?_) AllReadyIn.nil
    gi_wp2_with (refine⟨trivial,?_⟩;gi_at_call 194;refine(callsIn_wide.2 HI'.out).mono ?_;rintro e w2 ⟨g2,c2,rfl,hc2,hb2,hg2,k1,k2,hb1⟩;have HK3:Hid (K3 { tmps:=#[.pointer (some ⟨p,1,none⟩),.int .i64 who,.int .i64 ticks,undef,undef,.pointer (some ⟨t,0,none⟩),.pointer (some ⟨b6,0,none⟩),.pointer (some ⟨b7,0,none⟩),undef,undef,.int .i64 ticks,.pointer (some ⟨p,1,none⟩),.func (.func 170) #[] #[.pointer (some ⟨WS,0,none⟩)],undef,undef,undef,undef,undef,undef,undef,undef,undef,undef,.pointer (some ⟨p,1,none⟩),.pointer (some ⟨p,1,none⟩),.pointer (some ⟨p,1,none⟩),.pointer (some ⟨p,1,none⟩),.slice sp m cap,.int .i64 (k:Int),.int .i64 who,.int .i64 z,.agg #[.int .i64 who,.int .i64 z],.slice (some ⟨W1.heap.size,0,none⟩) 1 1,.slice (some ⟨g2,0,none⟩) (m+1) c2,.pointer (some ⟨p,1,none⟩),.pointer (some ⟨p,1,none⟩),undef,undef,undef,undef,undef,undef],defers:=[{ target:=.collected D,args:=#[] }] } (w2.setCell ⟨p,1,none⟩ (.slice (some ⟨g2,0,none⟩) (m+1) c2))):=key3 g2 c2 w2 hc2 hb2 hg2 hb1;clear hc2 hb2 hg2 hb1)
    refine wpAnyIn_take (i:=11) (v:=?vb25) rfl rfl (by kernel_rfl) (by kernel_rfl) (by kernel_rfl) (fun _ _ _ h=>h) ⟨Or.inl ⟨by rfl,?hyb25⟩,fun _=>rfl⟩ ?restb25
    case hyb25=>(intro w;go_simp;try with_reducible rfl)
    refine wpAnyIn_take (i:=12) (v:=?vb26) rfl rfl (by kernel_rfl) (by kernel_rfl) (by kernel_rfl) (fun _ _ _ h=>h) ⟨Or.inl ⟨by rfl,?hyb26⟩,fun _=>rfl⟩ ?restb26
    case hyb26=>(intro w;go_simp;try with_reducible rfl)
    refine wpAnyIn_ready (rs:=[13]) (by kernel_rfl) (by simp) ?_
    refine AllReadyIn.cons rfl (fun K hK=>?_) AllReadyIn.nil
    go_simp
    refine hK _ _ ?_
    clear hK K
    refine wpAnyIn_done (by kernel_rfl) ?_ _
    exact HK3.out
   refine AllReadyIn.cons rfl (fun K hK=>?_) ?_
   ·go_simp
    refine hK _ _ ?_
    clear hK K
    refine wpAnyIn_ready (rs:=[4,9]) (by kernel_rfl) (by simp) ?_
    refine AllReadyIn.cons rfl (fun K hK=>?_) ?_
    ·go_simp
     refine hK _ _ ?_
     clear hK K
     refine wpAnyIn_ready (rs:=[9]) (by kernel_rfl) (by simp) ?_
     refine AllReadyIn.cons rfl (fun K hK=>?_) AllReadyIn.nil
     go_simp
     refine hK _ _ ?_
     clear hK K
     refine wpAnyIn_ready (rs:=[10]) (by kernel_rfl) (by simp) ?_
     refine AllReadyIn.cons rfl (fun K hK=>?_) AllReadyIn.nil
     gi_wp2_with (refine⟨trivial,?_⟩;gi_at_call 194;refine(callsIn_wide.2 HI'.out).mono ?_;rintro e w2 ⟨g2,c2,rfl,hc2,hb2,hg2,k1,k2,hb1⟩;have HK3:Hid (K3 { tmps:=#[.pointer (some ⟨p,1,none⟩),.int .i64 who,.int .i64 ticks,undef,undef,.pointer (some ⟨t,0,none⟩),.pointer (some ⟨b6,0,none⟩),.pointer (some ⟨b7,0,none⟩),undef,undef,.int .i64 ticks,.pointer (some ⟨p,1,none⟩),.func (.func 170) #[] #[.pointer (some ⟨WS,0,none⟩)],undef,undef,undef,undef,undef,undef,undef,undef,undef,undef,.pointer (some ⟨p,1,none⟩),.pointer (some ⟨p,1,none⟩),.pointer (some ⟨p,1,none⟩),.pointer (some ⟨p,1,none⟩),.slice sp m cap,.int .i64 (k:Int),.int .i64 who,.int .i64 z,.agg #[.int .i64 who,.int .i64 z],.slice (some ⟨W1.heap.size,0,none⟩) 1 1,.slice (some ⟨g2,0,none⟩) (m+1) c2,.pointer (some ⟨p,1,none⟩),.pointer (some ⟨p,1,none⟩),undef,undef,undef,undef,undef,undef],defers:=[{ target:=.collected D,args:=#[] }] } (w2.setCell ⟨p,1,none⟩ (.slice (some ⟨g2,0,none⟩) (m+1) c2))):=key3 g2 c2 w2 hc2 hb2 hg2 hb1;clear hc2 hb2 hg2 hb1)
     refine wpAnyIn_take (i:=11) (v:=?vb27) rfl rfl (by kernel_rfl) (by kernel_rfl) (by kernel_rfl) (fun _ _ _ h=>h) ⟨Or.inl ⟨by rfl,?hyb27⟩,fun _=>rfl⟩ ?restb27
     case hyb27=>(intro w;go_simp;try with_reducible rfl)
     refine wpAnyIn_take (i:=12) (v:=?vb28) rfl rfl (by kernel_rfl) (by kernel_rfl) (by kernel_rfl) (fun _ _ _ h=>h) ⟨Or.inl ⟨by rfl,?hyb28⟩,fun _=>rfl⟩ ?restb28
     case hyb28=>(intro w;go_simp;try with_reducible rfl)
     refine wpAnyIn_ready (rs:=[13]) (by kernel_rfl) (by simp) ?_
     refine AllReadyIn.cons rfl (fun K hK=>?_) AllReadyIn.nil
     go_simp
     refine hK _ _ ?_
     clear hK K
     refine wpAnyIn_done (by kernel_rfl) ?_ _
     exact HK3.out
    refine AllReadyIn.cons rfl (fun K hK=>?_) AllReadyIn.nil
    go_simp
    refine hK _ _ ?_
    clear hK K
    refine wpAnyIn_ready (rs:=[4]) (by kernel_rfl) (by simp) ?_
    refine AllReadyIn.cons rfl (fun K hK=>?_) AllReadyIn.nil
    go_simp
    refine hK _ _ ?_
    clear hK K
    refine wpAnyIn_ready (rs:=[10]) (by kernel_rfl) (by simp) ?_
    refine AllReadyIn.cons rfl (fun K hK=>?_) AllReadyIn.nil
    gi_wp2_with (refine⟨trivial,?_⟩;gi_at_call 194;refine(callsIn_wide.2 HI'.out).mono ?_;rintro e w2 ⟨g2,c2,rfl,hc2,hb2,hg2,k1,k2,hb1⟩;have HK3:Hid (K3 { tmps:=#[.pointer (some ⟨p,1,none⟩),.int .i64 who,.int .i64 ticks,undef,undef,.pointer (some ⟨t,0,none⟩),.pointer (some ⟨b6,0,none⟩),.pointer (some ⟨b7,0,none⟩),undef,undef,.int .i64 ticks,.pointer (some ⟨p,1,none⟩),.func (.func 170) #[] #[.pointer (some ⟨WS,0,none⟩)],undef,undef,undef,undef,undef,undef,undef,undef,undef,undef,.pointer (some ⟨p,1,none⟩),.pointer (some ⟨p,1,none⟩),.pointer (some ⟨p,1,none⟩),.pointer (some ⟨p,1,none⟩),.slice sp m cap,.int .i64 (k:Int),.int .i64 who,.int .i64 z,.agg #[.int .i64 who,.int .i64 z],.slice (some ⟨W1.heap.size,0,none⟩) 1 1,.slice (some ⟨g2,0,none⟩) (m+1) c2,.pointer (some ⟨p,1,none⟩),.pointer (some ⟨p,1,none⟩),undef,undef,undef,undef,undef,undef],defers:=[{ target:=.collected D,args:=#[] }] } (w2.setCell ⟨p,1,none⟩ (.slice (some ⟨g2,0,none⟩) (m+1) c2))):=key3 g2 c2 w2 hc2 hb2 hg2 hb1;clear hc2 hb2 hg2 hb1)
    refine wpAnyIn_take (i:=11) (v:=?vb29) rfl rfl (by kernel_rfl) (by kernel_rfl) (by kernel_rfl) (fun _ _ _ h=>h) ⟨Or.inl ⟨by rfl,?hyb29⟩,fun _=>rfl⟩ ?restb29
    case hyb29=>(intro w;go_simp;try with_reducible rfl)
    refine wpAnyIn_take (i:=12) (v:=?vb30) rfl rfl (by kernel_rfl) (by kernel_rfl) (by kernel_rfl) (fun _ _ _ h=>h) ⟨Or.inl ⟨by rfl,?hyb30⟩,fun _=>rfl⟩ ?restb30
    case hyb30=>(intro w;go_simp;try with_reducible rfl)
    refine wpAnyIn_ready (rs:=[13]) (by kernel_rfl) (by simp) ?_
    refine AllReadyIn.cons rfl (fun K hK=>?_) AllReadyIn.nil
    go_simp
    refine hK _ _ ?_
    clear hK K
    refine wpAnyIn_done (by kernel_rfl) ?_ _
    exact HK3.out
   refine AllReadyIn.cons rfl (fun K hK=>?_) AllReadyIn.nil
   go_simp
   refine hK _ _ ?_
   clear hK K
   refine wpAnyIn_ready (rs:=[4,5]) (by kernel_rfl) (by simp) ?_
   refine AllReadyIn.cons rfl (fun K hK=>?_) ?_
   ·go_simp
    refine hK _ _ ?_
    clear hK K
    refine wpAnyIn_ready (rs:=[5]) (by kernel_rfl) (by simp) ?_
    refine AllReadyIn.cons rfl (fun K hK=>?_) AllReadyIn.nil
    go_simp
    refine hK _ _ ?_
    clear hK K
    refine wpAnyIn_ready (rs:=[10]) (by kernel_rfl) (by simp) ?_
    refine AllReadyIn.cons rfl (fun K hK=>?_) AllReadyIn.nil
    gi_wp2_with (refine⟨trivial,?_⟩;gi_at_call 194;refine(callsIn_wide.2 HI'.out).mono ?_;rintro e w2 ⟨g2,c2,rfl,hc2,hb2,hg2,k1,k2,hb1⟩;have HK3:Hid (K3 { tmps:=#[.pointer (some ⟨p,1,none⟩),.int .i64 who,.int .i64 ticks,undef,undef,.pointer (some ⟨t,0,none⟩),.pointer (some ⟨b6,0,none⟩),.pointer (some ⟨b7,0,none⟩),undef,undef,.int .i64 ticks,.pointer (some ⟨p,1,none⟩),.func (.func 170) #[] #[.pointer (some ⟨WS,0,none⟩)],undef,undef,undef,undef,undef,undef,undef,undef,undef,undef,.pointer (some ⟨p,1,none⟩),.pointer (some ⟨p,1,none⟩),.pointer (some ⟨p,1,none⟩),.pointer (some ⟨p,1,none⟩),.slice sp m cap,.int .i64 (k:Int),.int .i64 who,.int .i64 z,.agg #[.int .i64 who,.int .i64 z],.slice (some ⟨W1.heap.size,0,none⟩) 1 1,.slice (some ⟨g2,0,none⟩) (m+1) c2,.pointer (some ⟨p,1,none⟩),.pointer (some ⟨p,1,none⟩),undef,undef,undef,undef,undef,undef],defers:=[{ target:=.collected D,args:=#[] }] } (w2.setCell ⟨p,1,none⟩ (.slice (some ⟨g2,0,none⟩) (m+1) c2))):=key3 g2 c2 w2 hc2 hb2 hg2 hb1;clear hc2 hb2 hg2 hb1)
    refine wpAnyIn_take (i:=11) (v:=?vb31) rfl rfl (by kernel_rfl) (by kernel_rfl) (by kernel_rfl) (fun _ _ _ h=>h) ⟨Or.inl ⟨by rfl,?hyb31⟩,fun _=>rfl⟩ ?restb31
    case hyb31=>(intro w;go_simp;try with_reducible rfl)
    refine wpAnyIn_take (i:=12) (v:=?vb32) rfl rfl (by kernel_rfl) (by kernel_rfl) (by kernel_rfl) (fun _ _ _ h=>h) ⟨Or.inl ⟨by rfl,?hyb32⟩,fun _=>rfl⟩ ?restb32
    case hyb32=>(intro w;go_simp;try with_reducible rfl)
    refine wpAnyIn_ready (rs:=[13]) (by kernel_rfl) (by simp) ?_
    refine AllReadyIn.cons rfl (fun K hK=>?_) AllReadyIn.nil
    go_simp
    refine hK _ _ ?_
    clear hK K
    refine wpAnyIn_done (by kernel_rfl) ?_ _
    exact HK3.out
   refine AllReadyIn.cons rfl (fun K hK=>?_) AllReadyIn.nil
   go_simp
   refine hK _ _ ?_
   clear hK K
   refine wpAnyIn_ready (rs:=[4]) (by kernel_rfl) (by simp) ?_
   refine AllReadyIn.cons rfl (fun K hK=>?_) AllReadyIn.nil
   go_simp
   refine hK _ _ ?_
   clear hK K
   refine wpAnyIn_ready (rs:=[10]) (by kernel_rfl) (by simp) ?_
   refine AllReadyIn.cons rfl (fun K hK=>?_) AllReadyIn.nil
   gi_wp2_with (refine⟨trivial,?_⟩;gi_at_call 194;refine(callsIn_wide.2 HI'.out).mono ?_;rintro e w2 ⟨g2,c2,rfl,hc2,hb2,hg2,k1,k2,hb1⟩;have HK3:Hid (K3 { tmps:=#[.pointer (some ⟨p,1,none⟩),.int .i64 who,.int .i64 ticks,undef,undef,.pointer (some ⟨t,0,none⟩),.pointer (some ⟨b6,0,none⟩),.pointer (some ⟨b7,0,none⟩),undef,undef,.int .i64 ticks,.pointer (some ⟨p,1,none⟩),.func (.func 170) #[] #[.pointer (some ⟨WS,0,none⟩)],undef,undef,undef,undef,undef,undef,undef,undef,undef,undef,.pointer (some ⟨p,1,none⟩),.pointer (some ⟨p,1,none⟩),.pointer (some ⟨p,1,none⟩),.pointer (some ⟨p,1,none⟩),.slice sp m cap,.int .i64 (k:Int),.int .i64 who,.int .i64 z,.agg #[.int .i64 who,.int .i64 z],.slice (some ⟨W1.heap.size,0,none⟩) 1 1,.slice (some ⟨g2,0,none⟩) (m+1) c2,.pointer (some ⟨p,1,none⟩),.pointer (some ⟨p,1,none⟩),undef,undef,undef,undef,undef,undef],defers:=[{ target:=.collected D,args:=#[] }] } (w2.setCell ⟨p,1,none⟩ (.slice (some ⟨g2,0,none⟩) (m+1) c2))):=key3 g2 c2 w2 hc2 hb2 hg2 hb1;clear hc2 hb2 hg2 hb1)
   refine wpAnyIn_take (i:=11) (v:=?vb33) rfl rfl (by kernel_rfl) (by kernel_rfl) (by kernel_rfl) (fun _ _ _ h=>h) ⟨Or.inl ⟨by rfl,?hyb33⟩,fun _=>rfl⟩ ?restb33
   case hyb33=>(intro w;go_simp;try with_reducible rfl)
   refine wpAnyIn_take (i:=12) (v:=?vb34) rfl rfl (by kernel_rfl) (by kernel_rfl) (by kernel_rfl) (fun _ _ _ h=>h) ⟨Or.inl ⟨by rfl,?hyb34⟩,fun _=>rfl⟩ ?restb34
   case hyb34=>(intro w;go_simp;try with_reducible rfl)
   refine wpAnyIn_ready (rs:=[13]) (by kernel_rfl) (by simp) ?_
   refine AllReadyIn.cons rfl (fun K hK=>?_) AllReadyIn.nil
   go_simp
   refine hK _ _ ?_
   clear hK K
   refine wpAnyIn_done (by kernel_rfl) ?_ _
   exact HK3.out
  have hsz:(W.alloc (Obj.cells #[.pointer (some ⟨p,1,none⟩)] 213)).heap.size=WS+1:=by rw [alloc_size,hWS]
  have hBn:Boxed (W.alloc (Obj.cells #[.pointer (some ⟨p,1,none⟩)] 213)) WS 213 (.pointer (some ⟨p,1,none⟩)):=by have:=Boxed.new W 213 (.pointer (some ⟨p,1,none⟩));rw [hWS] at this;exact this
  have htW:t<=W.heap.size:=by have:=HAB.out.bel.size;have:=HT.out;omega
  have HAB2:Hid (AB w (W.alloc (Obj.cells #[.pointer (some ⟨p,1,none⟩)] 213)) t b6 b7 ticks 0 ticks):=HAB.out.below htW (alloc_below W _)
  generalize W.alloc (Obj.cells #[.pointer (some ⟨p,1,none⟩)] 213)=W0 at hsz hBn HAB2 ⊢
  have hlk0:=(HAB2.out.bel.cell (p:=⟨p,1,none⟩) hpl).trans HLK.out
  have hcs0:∀ k,k < m->W0.cell? ⟨g,k * 2+1,none⟩=some (.int .i64 (bd k)):=fun k hk=>(HAB2.out.bel.cell (p:=⟨g,k * 2+1,none⟩) hgl).trans (hcs'.out k hk)
  have h6:b6 < WS:=by have:=HAB.out.x6.lt;omega
  have h7:b7 < WS:=by have:=HAB.out.x7.lt;omega
  have h66:=HAB.out.l6
  have h77:=HAB.out.l7
  clear HAB
  refine wpIn_rangeFunc_ownG rfl (by omega) (gf:=170) (lb:=#[.pointer (some ⟨WS,0,none⟩)]) rfl trivial (enters_of Tryz.func170 (by kernel_rfl) rfl)
   (seq_stops _ (by omega) WS p g m cap sp hsp (by omega) F bd hF0.out HF.out W0 (by omega) (by omega) (fun _=>by omega) hBn.cell hlk0 hcs0) Kp.trans (kp_b (by simp;omega)) (Below.refl _ _) (fun _=>rfl)
   (fun pre W=>AB w W t b6 b7 ticks (lastP pre:Nat) (ticks - F (lastP pre))/\(∀ x∈pre,F (x.val+1)<=ticks))
   (fun c pre W=>c=.exit 0/\∃ pre' x,pre=pre' ++ [x]/\ticks < F (x.val+1)/\AB w W t b6 b7 ticks (lastP pre':Nat) (ticks - F (lastP pre'))/\(∀ x∈pre',F (x.val+1)<=ticks))
   (ownFrom_of fun s W W' hs hk hB=>⟨hs.1.keep hk (hB t (by omega) (by have:=hs.1.bel.size;have:=HT.out;omega)),hs.2⟩)
   (fun c=>ownFrom_of fun s W W' hs hk hB=>by
    obtain⟨hc,pre',x,hp,hf,hab,hle⟩:=hs
    exact⟨hc,pre',x,hp,hf,hab.keep hk (hB t (by omega) (by have:=hab.bel.size;have:=HT.out;omega)),hle⟩)
   ⟨by have:=HAB2.out;rw [show lastP ([]:List (Fin m))=0 from rfl,hF0.out,Int.sub_zero];exact this,by simp⟩
   (fun x=>{ tmps:=#[.pointer (some ⟨p,1,none⟩),.int .i64 who,.int .i64 ticks,undef,undef,.pointer (some ⟨t,0,none⟩),.pointer (some ⟨b6,0,none⟩),.pointer (some ⟨b7,0,none⟩),.int .i64 ((x.val:Nat):Int),.int .i64 (F (x.val+1)),.int .i64 ticks,.pointer (some ⟨p,1,none⟩),.func (.func 170) #[] #[.pointer (some ⟨WS,0,none⟩)],.int .i64 ((x.val:Nat):Int),.int .i64 (F (x.val+1)),undef,undef,undef,undef,undef,undef,undef,undef,undef,undef,undef,undef,undef,undef,undef,undef,undef,undef,undef,undef,undef,undef,undef,undef,undef,undef,undef],defers:=[] }) ?assign ?body ?done ?stop
  case assign =>
   intro l x W K hK
   gi_wp2
   exact hK
  case body =>
   rintro l pre x W1 ⟨hab,hle⟩ hlt
   have c5:=hab.x5.cell
   have c6:=hab.x6.cell
   have c7:=hab.x7.cell
   have f6:=hab.x6.frozen
   have f7:=hab.x7.frozen
   have hn:=hab.n67
   have hn':=Ne.symm hn
   have hn5:=hab.n56
   have hn5':=Ne.symm hn5
   have hn6:=hab.n57
   have hn6':=Ne.symm hn6
   have HA1:Hid (AB w W1 t b6 b7 ticks (lastP pre:Nat) (ticks - F (lastP pre))):=hab
   have HLE:Hid (∀ x∈pre,F (x.val+1)<=ticks):=hle
   have hxm:x.val < m:=x.isLt
   have hfx:=HFB.out (x.val+1) (by omega)
   have hw1:IntKind.i64.wrap (((x.val:Nat):Int)+1)=((x.val:Nat):Int)+1:=by rw [IntKind.wrap_i64];omega
   have hw2:IntKind.i64.wrap (ticks - F (x.val+1))=ticks - F (x.val+1):=by rw [IntKind.wrap_i64];omega
   clear hab hle hlt hlk0 hcs0 key2 hK2 hsp hBn hsz
   by_cases hgt:ticks < F (x.val+1)
   ·gi_wp2
    exact⟨KeepsFrom.refl _ _,rfl,pre,x,rfl,hgt,HA1.out,HLE.out⟩
   ·have hgt':F (x.val+1)<=ticks:=by omega
    gi_wp2
    refine region_round (by intro i o ho c;rcases i with _ | _ | _ | _ | _ | _ | _ | i <;> (try (cases ho;exact(fun h=>by cases h)));simp at ho) hmx ?_
    have FIN:ownPostG W0.heap.size (Kp [WS,p,g]) (fun pre W=>AB w W t b6 b7 ticks (lastP pre:Nat) (ticks - F (lastP pre))/\(∀ x∈pre,F (x.val+1)<=ticks))
      (fun c pre W=>c=.exit 0/\∃ pre' x,pre=pre' ++ [x]/\ticks < F (x.val+1)/\AB w W t b6 b7 ticks (lastP pre':Nat) (ticks - F (lastP pre'))/\(∀ x∈pre',F (x.val+1)<=ticks)) (pre ++ [x]) W1 Exit.normal { tmps:=#[],defers:=[] } ((W1.setCell ⟨b6,0,none⟩ (.int .i64 (((x.val:Nat):Int)+1))).setCell ⟨b7,0,none⟩ (.int .i64 (ticks - F (x.val+1)))).drew:=by
     refine⟨((((KeepsOthers.setCell _ _ _).trans (KeepsOthers.setCell _ _ _)).trans (KeepsOthers.drew _)).from _),fun k hk=>?_,?_,fun y hy=>?_⟩
     ·have hk':k≠b6/\k≠b7:=by
       simp only [List.mem_cons,List.not_mem_nil,or_false] at hk
       rcases hk with rfl | rfl | rfl <;> omega
      show((W1.setCell ⟨b6,0,none⟩ (.int .i64 (((x.val:Nat):Int)+1))).setCell ⟨b7,0,none⟩ (.int .i64 (ticks - F (x.val+1)))).heap[k]?=_
      rw [Below.heap_setCell _ _ _ _ hk'.2,Below.heap_setCell _ _ _ _ hk'.1]
     ·rw [lastP_snoc]
      have:=HA1.out.put ((x.val:Nat)+1) (ticks - F (x.val+1))
      exact this.keep (fun k cs ty f hk=>hk) ((Below.refl _ _).drew)
     ·rcases List.mem_append.1 hy with hy | hy
      ·exact HLE.out y hy
      ·have:y=x:=by simpa using hy
       rw [this];exact hgt'
    refine wpAnyIn_take (i:=0) (v:=?va1) rfl rfl (by kernel_rfl) (by kernel_rfl) (by kernel_rfl) (fun _ _ _ h=>h) ⟨Or.inl ⟨by rfl,?hya1⟩,fun _=>rfl⟩ ?resta1
    case hya1=>(intro w;go_simp;try with_reducible rfl)
    refine wpAnyIn_take (i:=1) (v:=?va2) rfl rfl (by kernel_rfl) (by kernel_rfl) (by kernel_rfl) (fun _ _ _ h=>h) ⟨Or.inl ⟨by rfl,?hya2⟩,fun _=>rfl⟩ ?resta2
    case hya2=>(intro w;go_simp;try with_reducible rfl)
    refine wpAnyIn_take (i:=3) (v:=?va3) rfl rfl (by kernel_rfl) (by kernel_rfl) (by kernel_rfl) (fun _ _ _ h=>h) ⟨Or.inl ⟨by rfl,?hya3⟩,fun _=>rfl⟩ ?resta3
    case hya3=>(intro w;go_simp;try with_reducible rfl)
    refine wpAnyIn_ready (rs:=[2,5]) (by kernel_rfl) (by simp) ?_
    refine AllReadyIn.cons rfl (fun K hK=>?_) ?_
    ·go_simp
     refine hK _ _ ?_
     clear hK K
     refine wpAnyIn_take (i:=4) (v:=?va4) rfl rfl (by kernel_rfl) (by kernel_rfl) (by kernel_rfl) (fun _ _ _ h=>h) ⟨Or.inl ⟨by rfl,?hya4⟩,fun _=>rfl⟩ ?resta4
     case hya4=>(intro w;go_simp;try with_reducible rfl)
     refine wpAnyIn_ready (rs:=[5]) (by kernel_rfl) (by simp) ?_
     refine AllReadyIn.cons rfl (fun K hK=>?_) AllReadyIn.nil
     go_simp
     refine hK _ _ ?_
     clear hK K
     refine wpAnyIn_ready (rs:=[6]) (by kernel_rfl) (by simp) ?_
     refine AllReadyIn.cons rfl (fun K hK=>?_) AllReadyIn.nil
     go_simp
     refine hK _ _ ?_
     clear hK K
     refine wpAnyIn_done (by kernel_rfl) ?_ _
     exact FIN
    refine AllReadyIn.cons rfl (fun K hK=>?_) AllReadyIn.nil
    go_simp
    refine hK _ _ ?_
    clear hK K
    refine wpAnyIn_ready (rs:=[2]) (by kernel_rfl) (by simp) ?_
    refine AllReadyIn.cons rfl (fun K hK=>?_) AllReadyIn.nil
    go_simp
    refine hK _ _ ?_
    clear hK K
    refine wpAnyIn_take (i:=4) (v:=?va5) rfl rfl (by kernel_rfl) (by kernel_rfl) (by kernel_rfl) (fun _ _ _ h=>h) ⟨Or.inl ⟨by rfl,?hya5⟩,fun _=>rfl⟩ ?resta5
    case hya5=>(intro w;go_simp;try with_reducible rfl)
    refine wpAnyIn_ready (rs:=[6]) (by kernel_rfl) (by simp) ?_
    refine AllReadyIn.cons rfl (fun K hK=>?_) AllReadyIn.nil
    go_simp
    refine hK _ _ ?_
    clear hK K
    refine wpAnyIn_done (by kernel_rfl) ?_ _
    exact FIN
  case done =>
   rintro D ys W1 hD rfl ⟨hab,hle⟩ hK
   have e:lastP (List.finRange m)=m:=by
    have:=lastP_take (m:=m) (k:=m) (Nat.le_refl _)
    rwa [List.take_of_length_le (by simp)] at this
   rw [e] at hab
   exact key2 m D W1 (Nat.le_refl _) (fun i hi=>hle ⟨i,hi⟩ (List.mem_finRange _)) (fun h=>absurd h (Nat.lt_irrefl _)) hab hK (by omega)
  case stop =>
   rintro D c pre W1 hD hpre ⟨rfl,pre',x,rfl,hx,hab,hle⟩ hK
   have e:=pre_snoc hpre
   have hxm:x.val < m:=x.isLt
   have hle':∀ i,i < x.val->F (i+1)<=ticks:=fun i hi=>hle ⟨i,by omega⟩ (by rw [e];exact(mem_take_fin _).2 hi)
   rw [e,lastP_take (by omega)] at hab
   have fin:=key2 x.val D W1 (by omega) hle' (fun _=>hx) hab hK (by omega)
   clear hlk0 hcs0 hsp hBn hsz key2 hab hle hle' hK hK2
   gi_wp2
   exact fin
 clear hlk hcs' HF hF0 hsp
 gi_region_with_o (fail)
 all_goals first | exact key _ _ _ (AB.of HT.out ticks).1 | exact key _ _ _ (AB.of HT.out ticks).2
end Go.Proofs.YtbbdndfibjdcfaaGreat.Tm
