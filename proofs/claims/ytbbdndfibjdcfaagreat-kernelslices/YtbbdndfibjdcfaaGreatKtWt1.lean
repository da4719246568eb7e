/- Package kernel, proved: part KtWt1. No law of the program itself. -/
import Derived.Test.YtbbdndfibjdcfaaGreatRows
import Derived.WalkKit
import Derived.ProofKit
import Derived.OpenShut
import Derived.Laws.CopyOwn
import Derived.Laws.MakeOwn
import Derived.Laws.OwnMore
import Derived.Deep.RegionLaw
import Derived.Deep.QuietTactic
import Derived.BigQuiet
import Derived.Deep.CutRange
import Derived.Deep.RegionWith
import Derived.Deep.RegionHeld3
import Derived.Deep.CutBlock
import Derived.ArgAppend
import Derived.Test.YtbbdndfibjdcfaaGreatKtA1
set_option maxRecDepth 100000
set_option linter.all false
set_option maxHeartbeats 16000000
namespace Go.Proofs.YtbbdndfibjdcfaaGreat.Wt
open Go Go.RowKit
def wi(xs:List (Int×Int))(who:Int):Nat:=xs.findIdx (fun y=>y.1 == who)
def ri(xs:List (Int×Int))(r:Int):Nat:=xs.findIdx (fun y=>decide (y.2 < r))
def has(xs:List (Int×Int))(who:Int):Bool:=decide (wi xs who < xs.length)
def ins(xs:List (Int×Int))(z:Int×Int):List (Int×Int):=xs.insertIdx (ri xs z.2) z
def gone(xs:List (Int×Int))(who:Int):List (Int×Int):=xs.eraseIdx (wi xs who)
def badR(r:Int):Prop:=r < 0∨31 < r
instance (r:Int):Decidable (badR r):=by unfold badR;infer_instance
def badA(who r:Int):Prop:=who < 0∨r < 0∨31 < r
instance (who r:Int):Decidable (badA who r):=by unfold badA;infer_instance
def putE(xs:List (Int×Int))(who r:Int):Int:=if badA who r then 1 else if has xs who=true then 7 else 0
def putL(xs:List (Int×Int))(who r:Int):List (Int×Int):=if badA who r then xs else if has xs who=true then xs else ins xs (who,r)
def remE(xs:List (Int×Int))(who:Int):Int:=if has xs who=true then 0 else 1
def rkOf(xs:List (Int×Int))(who:Int):Int:=(xs.getD (wi xs who) (0,0)).2
def chE(xs:List (Int×Int))(who r:Int):Int:=if has xs who=true then(if badR r then 1 else 0) else 1
def chL(xs:List (Int×Int))(who r:Int):List (Int×Int):=if has xs who=true then(if badR r then xs else if rkOf xs who=r then xs else ins (gone xs who) (who,r)) else xs
def keys(xs:List (Int×Int)):List Int:=xs.map Prod.fst
theorem ri_le(xs:List (Int×Int))(r:Int):ri xs r<=xs.length:=List.findIdx_le_length
theorem wi_le(xs:List (Int×Int))(who:Int):wi xs who<=xs.length:=List.findIdx_le_length
theorem getD_at{xs:List (Int×Int)}{i:Nat}(h:i < xs.length):xs.getD i (0,0)=xs[i]:=by simp [List.getD_eq_getElem?_getD,h]
theorem getD_mem{xs:List (Int×Int)}{i:Nat}(h:i < xs.length):xs.getD i (0,0)∈xs:=by rw [getD_at h];exact List.getElem_mem h
theorem wi_at{xs:List (Int×Int)}{who:Int}(h:wi xs who < xs.length):(xs.getD (wi xs who) (0,0)).1=who:=by
 rw [getD_at h]
 have:=List.findIdx_getElem (p:=fun y:Int×Int=>y.1 == who) (xs:=xs) (w:=h)
 exact beq_iff_eq.1 this
theorem wi_no{xs:List (Int×Int)}{who:Int}{i:Nat}(h:i < wi xs who):(xs.getD i (0,0)).1≠who:=by
 have hl:=wi_le xs who
 rw [getD_at (by omega)]
 have:=List.not_of_lt_findIdx (p:=fun y:Int×Int=>y.1 == who) (xs:=xs) h
 simpa using this
theorem ri_at{xs:List (Int×Int)}{r:Int}(h:ri xs r < xs.length):(xs.getD (ri xs r) (0,0)).2 < r:=by
 rw [getD_at h]
 have:=List.findIdx_getElem (p:=fun y:Int×Int=>decide (y.2 < r)) (xs:=xs) (w:=h)
 exact of_decide_eq_true this
theorem ri_no{xs:List (Int×Int)}{r:Int}{i:Nat}(h:i < ri xs r):r<=(xs.getD i (0,0)).2:=by
 have hl:=ri_le xs r
 rw [getD_at (by omega)]
 have:=List.not_of_lt_findIdx (p:=fun y:Int×Int=>decide (y.2 < r)) (xs:=xs) h
 simpa using this
theorem has_yes{xs:List (Int×Int)}{who:Int}:has xs who=true↔∃ y∈xs,y.1=who:=by
 unfold has wi
 rw [decide_eq_true_iff,List.findIdx_lt_length]
 simp
theorem has_no{xs:List (Int×Int)}{who:Int}:has xs who=false↔∀ y∈xs,y.1≠who:=by
 rw [←Bool.not_eq_true,has_yes]
 exact⟨fun h y hy e=>h ⟨y,hy,e⟩,fun h ⟨y,hy,e⟩=>h y hy e⟩
theorem has_lt{xs:List (Int×Int)}{who:Int}(h:has xs who=true):wi xs who < xs.length:=by simpa [has] using h
theorem has_ge{xs:List (Int×Int)}{who:Int}(h:has xs who=false):wi xs who=xs.length:=by
 have h1:¬ wi xs who < xs.length:=by simpa [has] using h
 have:=wi_le xs who
 omega
theorem insert_split{α:Type}:∀ (xs:List α) (k:Nat) (z:α),k<=xs.length->xs.insertIdx k z=xs.take k ++ z :: xs.drop k
 | xs,0,z,_=>by simp
 | [],k+1,z,h=>by simp at h
 | x :: r,k+1,z,h=>by
  have:=insert_split r k z (by simpa using h)
  simp [List.insertIdx_succ_cons,this]
theorem ins_split(xs:List (Int×Int))(z:Int×Int):ins xs z=xs.take (ri xs z.2) ++ z :: xs.drop (ri xs z.2):=by
 unfold ins
 exact insert_split xs _ z (ri_le xs z.2)
theorem ins_perm(xs:List (Int×Int))(z:Int×Int):(ins xs z).Perm (z :: xs):=by
 rw [ins_split]
 refine List.perm_middle.trans ?_
 rw [List.take_append_drop]
theorem gone_no{xs:List (Int×Int)}{who:Int}(h:has xs who=false):gone xs who=xs:=by
 unfold gone
 rw [has_ge h]
 exact List.eraseIdx_of_length_le (Nat.le_refl _)
structure Good (xs:List (Int×Int)):Prop where
 lo:∀ y∈xs,0<=y.1
 nd:(keys xs).Nodup
theorem Good.nil:Good []:=⟨fun y h=>by simp at h,by simp [keys]⟩
theorem Good.ins{xs:List (Int×Int)}(h:Good xs){who r:Int}(h0:0<=who)(hn:has xs who=false):Good (ins xs (who,r)):=by
 have hp:=ins_perm xs (who,r)
 refine⟨fun y hy=>?_,?_⟩
 ·rcases List.mem_cons.1 (hp.mem_iff.1 hy) with rfl | hy
  ·exact h0
  ·exact h.lo y hy
 ·unfold keys
  rw [(hp.map Prod.fst).nodup_iff]
  simp only [List.map_cons,List.nodup_cons]
  refine⟨fun hm=>?_,h.nd⟩
  obtain⟨y,hy,e⟩:=List.mem_map.1 hm
  exact has_no.1 hn y hy e
theorem gone_keys(xs:List (Int×Int))(who:Int):keys (gone xs who)=(keys xs).eraseIdx (wi xs who):=by simp [keys,gone,List.eraseIdx_eq_take_drop_succ,List.map_take,List.map_drop]
theorem gone_mem{xs:List (Int×Int)}{who:Int}{y:Int×Int}(h:y∈gone xs who):y∈xs:=List.mem_of_mem_eraseIdx h
theorem Good.gone{xs:List (Int×Int)}(h:Good xs)(who:Int):Good (gone xs who):=by
 refine⟨fun y hy=>h.lo y (gone_mem hy),?_⟩
 rw [gone_keys]
 exact h.nd.sublist (List.eraseIdx_sublist _ _)
theorem Good.went{xs:List (Int×Int)}(h:Good xs)(who:Int):has (YtbbdndfibjdcfaaGreat.Wt.gone xs who) who=false:=by
 by_cases hh:has xs who=true
 ·refine has_no.2 fun y hy e=>?_
  have hlt:=has_lt hh
  have hm:who∈keys (YtbbdndfibjdcfaaGreat.Wt.gone xs who):=List.mem_map.2 ⟨y,hy,e⟩
  rw [gone_keys] at hm
  have hk:(keys xs)[wi xs who]'(by simpa [keys] using hlt)=who:=by
   have:=wi_at hlt
   rw [getD_at hlt] at this
   simp [keys,this]
  have hnd:=h.nd
  obtain⟨j,hj,hne,he⟩:=List.mem_eraseIdx_iff_getElem.1 hm
  have:=(List.getElem_inj (h₀:=hj) (h₁:=by simpa [keys] using hlt) hnd).1 (he.trans hk.symm)
  exact hne this
 ·have hh':has xs who=false:=by simpa using hh
  rw [gone_no hh'];exact hh'
theorem Good.change{xs:List (Int×Int)}(h:Good xs)(who r:Int):Good (chL xs who r):=by
 unfold chL
 split
 ·rename_i hh
  split
  ·exact h
  ·split
   ·exact h
   ·obtain⟨y,hy,rfl⟩:=has_yes.1 hh
    exact(h.gone _).ins (h.lo y hy) (h.went _)
 ·exact h
theorem gone_len'{xs:List (Int×Int)}{who:Int}(h:has xs who=true):(gone xs who).length+1=xs.length:=by
 have:=has_lt h
 unfold gone;rw [List.length_eraseIdx,if_pos this];omega
theorem keys_len(xs:List (Int×Int)):(keys xs).length=xs.length:=by simp [keys]
def Src(w:World)(sp:Option Addr)(zs:List Int):Prop :=
 0 < zs.length->∃ b off,sp=some ⟨b,off,none⟩/\∀ i,i < zs.length->w.cell? ⟨b,off+i,none⟩=some (.int .i64 (zs.getD i 0))
theorem Src.own{w:World}{B:Nat}{v:Value}{zs:List Int}(h:w.ownsRow B 3 1 v zs.length (zs.map (Value.int .i64))):∃ sp cap,v=.slice sp zs.length cap/\Src w sp zs:=by
 rcases h.2 with⟨rfl,h0⟩ |⟨g,cap,cur,rfl,_⟩
 ·exact⟨none,0,by rw [h0],fun hz=>by omega⟩
 ·exact⟨_,cap,rfl,fun _=>⟨g,0,rfl,fun i hi=>by rw [Nat.zero_add,h.cellAt i (by omega)];simp [hi]⟩⟩
structure Buts (l:List Nat) (w w':World):Prop where
 os:w'.os=w.os
 tape:w'.tape=w.tape
 output:w'.output=w.output
 size:w.heap.size<=w'.heap.size
 block:∀ k,k < w.heap.size->k ∉ l->w'.heap[k]?=w.heap[k]?
theorem Buts.below{l:List Nat}{B:Nat}{w w':World}(h:Buts l w w')(hg:∀ x∈l,B<=x)(hB:B<=w.heap.size):Below B w w' :=
 ⟨h.os,h.tape,h.output,h.size,fun k hk=>h.block k (by omega) (fun e=>by have:=hg k e;omega)⟩
theorem Buts.cell(w:World)(g k:Nat)(v:Value):Buts [g] w (w.setCell ⟨g,k,none⟩ v) :=
 ⟨rfl,rfl,rfl,by simp [World.setCell],fun j hj hg=>Below.heap_setCell _ _ _ _ (by simpa using hg)⟩
theorem Buts.grown{w w':World}{row:Option Nat}(h:w.grownBy w' row):Buts row.toList w w' :=
 ⟨h.os,h.tape,h.output,h.size,fun k hk hg=>h.block k hk (fun e=>hg (by rw [←e];simp))⟩
def lp(b:Option Nat):Value:=.pointer (b.map fun b=>⟨b,0,none⟩)
structure Ch (w:World) (bs:List Nat) (ys:List (Int×Int)):Prop where
 len:bs.length=ys.length
 nd:bs.Nodup
 lnk:∀ (i b:Nat) (y:Int×Int),bs[i]?=some b->ys[i]?=some y->w.heap[b]?=some (.cells #[.int .i64 y.1,.int .i64 y.2,lp bs[i+1]?] 180 (0,0))
theorem Ch.keep{w w':World}{bs:List Nat}{ys:List (Int×Int)}(h:Ch w bs ys)(hk:∀ b∈bs,w'.heap[b]?=w.heap[b]?):Ch w' bs ys :=
 ⟨h.len,h.nd,fun i b y hb hy=>(hk b (List.mem_of_getElem? hb)).trans (h.lnk i b y hb hy)⟩
theorem Ch.mem{w:World}{bs:List Nat}{ys:List (Int×Int)}(h:Ch w bs ys){b:Nat}(hb:b∈bs):∃ cs,w.heap[b]?=some (.cells cs 180 (0,0)):=by
 obtain⟨i,hi,e⟩:=List.getElem_of_mem hb
 exact⟨_,h.lnk i b (ys[i]'(by have:=h.len;omega)) (by rw [List.getElem?_eq_getElem hi,e]) (List.getElem?_eq_getElem _)⟩
theorem Ch.lt{w:World}{bs:List Nat}{ys:List (Int×Int)}(h:Ch w bs ys){b:Nat}(hb:b∈bs):b < w.heap.size:=by
 obtain⟨cs,e⟩:=h.mem hb
 exact at_lt e
theorem nodup_get{bs:List Nat}(h:bs.Nodup){i j b:Nat}(hi:bs[i]?=some b)(hj:bs[j]?=some b):i=j:=by
 obtain⟨li,ei⟩:=List.getElem?_eq_some_iff.1 hi
 obtain⟨lj,ej⟩:=List.getElem?_eq_some_iff.1 hj
 exact(List.getElem_inj (h₀:=li) (h₁:=lj) h).1 (ei.trans ej.symm)
theorem Ch.add{w w':World}{bs:List Nat}{ys:List (Int×Int)}(h:Ch w bs ys){k a nb:Nat}{y z:Int×Int}(ha:bs[k]?=some a)(hy:ys[k]?=some y)(hn:nb ∉ bs)
  (h1:w'.heap[nb]?=some (.cells #[.int .i64 z.1,.int .i64 z.2,lp bs[k+1]?] 180 (0,0))) (h2:w'.heap[a]?=some (.cells #[.int .i64 y.1,.int .i64 y.2,lp (some nb)] 180 (0,0)))
  (hk:∀ b∈bs,b≠a->w'.heap[b]?=w.heap[b]?):Ch w' (bs.insertIdx (k+1) nb) (ys.insertIdx (k+1) z):=by
 have hl:=h.len
 have hkl:k < bs.length:=(List.getElem?_eq_some_iff.1 ha).1
 refine⟨?_,?_,?_⟩
 ·rw [List.length_insertIdx_of_le_length (by omega),List.length_insertIdx_of_le_length (by omega),hl]
 ·rw [insert_split bs _ nb (by omega),List.perm_middle.nodup_iff,List.take_append_drop]
  exact List.nodup_cons.2 ⟨hn,h.nd⟩
 ·intro i b x hb hx
  rcases Nat.lt_trichotomy i (k+1) with c | rfl | c
  ·rw [List.getElem?_insertIdx_of_lt c] at hb hx
   by_cases e:i=k
   ·subst e
    rw [ha] at hb;rw [hy] at hx
    cases hb;cases hx
    rw [List.getElem?_insertIdx_self,if_pos (by omega)]
    exact h2
   ·rw [List.getElem?_insertIdx_of_lt (show i+1 < k+1 by omega),hk b (List.mem_of_getElem? hb) (fun e'=>e (nodup_get h.nd (e' ▸ hb) ha))]
    exact h.lnk i b x hb hx
  ·rw [List.getElem?_insertIdx_self,if_pos (by omega)] at hb hx
   cases hb;cases hx
   rw [List.getElem?_insertIdx_of_gt (show k+1 < k+1+1 by omega)]
   exact h1
  ·rw [List.getElem?_insertIdx_of_gt c] at hb hx
   rw [List.getElem?_insertIdx_of_gt (show k+1 < i+1 by omega),hk b (List.mem_of_getElem? hb) (fun e'=>by have:=nodup_get h.nd (e' ▸ hb) ha;omega)]
   have:=h.lnk (i - 1) b x hb hx
   rwa [show i - 1+1=i+1 - 1 by omega] at this
theorem Ch.drop{w w':World}{bs:List Nat}{ys:List (Int×Int)}(h:Ch w bs ys){k a:Nat}{y:Int×Int}(ha:bs[k]?=some a)(hy:ys[k]?=some y)
  (h2:w'.heap[a]?=some (.cells #[.int .i64 y.1,.int .i64 y.2,lp bs[k+2]?] 180 (0,0)))
  (hk:∀ b∈bs,b≠a->w'.heap[b]?=w.heap[b]?):Ch w' (bs.eraseIdx (k+1)) (ys.eraseIdx (k+1)):=by
 have hl:=h.len
 refine⟨by rw [List.length_eraseIdx,List.length_eraseIdx,hl],h.nd.sublist (List.eraseIdx_sublist _ _),?_⟩
 intro i b x hb hx
 rw [List.getElem?_eraseIdx] at hb hx ⊢
 by_cases c:i < k+1
 ·rw [if_pos c] at hb hx
  by_cases e:i=k
  ·subst e
   rw [ha] at hb;rw [hy] at hx
   cases hb;cases hx
   rw [if_neg (by omega)]
   exact h2
  ·rw [if_pos (by omega),hk b (List.mem_of_getElem? hb) (fun e'=>e (nodup_get h.nd (e' ▸ hb) ha))]
   exact h.lnk i b x hb hx
 ·rw [if_neg c] at hb hx
  rw [if_neg (by omega),hk b (List.mem_of_getElem? hb) (fun e'=>by have:=nodup_get h.nd (e' ▸ hb) ha;omega)]
  exact h.lnk (i+1) b x hb hx
structure Off (B:Nat->Prop) (w w':World):Prop where
 os:w'.os=w.os
 tape:w'.tape=w.tape
 output:w'.output=w.output
 size:w.heap.size<=w'.heap.size
 block:∀ k,k < w.heap.size->¬ B k->w'.heap[k]?=w.heap[k]?
theorem Off.refl(B:Nat->Prop)(w:World):Off B w w:=⟨rfl,rfl,rfl,Nat.le_refl _,fun _ _ _=>rfl⟩
theorem Off.trans{B:Nat->Prop}{a b c:World}(h:Off B a b)(k:Off B b c):Off B a c :=
 ⟨k.os.trans h.os,k.tape.trans h.tape,k.output.trans h.output,Nat.le_trans h.size k.size,fun i hi hg=>(k.block i (Nat.lt_of_lt_of_le hi h.size) hg).trans (h.block i hi hg)⟩
theorem Off.of{B:Nat->Prop}{w w':World}(h:Below w.heap.size w w'):Off B w w':=⟨h.os,h.tape,h.output,h.size,fun k hk _=>h.block k hk⟩
theorem Off.buts{B:Nat->Prop}{w w':World}{l:List Nat}(h:Buts l w w')(hl:∀ x∈l,B x):Off B w w':=⟨h.os,h.tape,h.output,h.size,fun k hk hb=>h.block k hk fun e=>hb (hl k e)⟩
def Up(B:Nat->Prop)(w:World):Prop:=∀ k,w.heap.size<=k->B k
theorem Up.up{B:Nat->Prop}{w w':World}(h:Up B w)(hs:w.heap.size<=w'.heap.size):Up B w':=fun k hk=>h k (Nat.le_trans hs hk)
structure Ln (B:Nat->Prop) (w w':World):Prop where
 low:Off B w w'
 oth:∀ (k:Nat) (cs:Array Value) (t:TypeId) (f:Nat×Nat),w.heap[k]?=some (.cells cs t f)->t≠180->w'.heap[k]?=w.heap[k]?
theorem Ln.refl(B:Nat->Prop)(w:World):Ln B w w:=⟨Off.refl _ _,fun _ _ _ _ _ _=>rfl⟩
theorem Ln.trans{B:Nat->Prop}{a b c:World}(h:Ln B a b)(k:Ln B b c):Ln B a c :=
 ⟨h.low.trans k.low,fun i cs t f hc ht=>by
  have e:=h.oth i cs t f hc ht
  rw [k.oth i cs t f (e.trans hc) ht,e]⟩
theorem Ln.of{B:Nat->Prop}{w w':World}(h:Below w.heap.size w w')(hB:Up B w):Ln B w w':=⟨Off.of h,fun k cs t f hc _=>h.block k (at_lt hc)⟩
theorem Ln.cell{B:Nat->Prop}{w:World}{b:Nat}{cs:Array Value}(h:w.heap[b]?=some (.cells cs 180 (0,0)))(hB:B b)(i:Nat)(v:Value):Ln B w (w.setCell ⟨b,i,none⟩ v) :=
 ⟨Off.buts (Buts.cell w b i v) (by simpa using hB),fun k cs' t f hc ht=>(Buts.cell w b i v).block k (at_lt hc) (by
  simp only [List.mem_singleton]
  rintro rfl
  rw [h] at hc
  simp only [Option.some.injEq,Obj.cells.injEq] at hc
  exact ht hc.2.1.symm)⟩
structure Que (B:Nat->Prop) (w:World) (p:Nat) (bs:List Nat) (xs:List (Int×Int)):Prop where
 head:w.heap[p]?=some (.cells #[lp bs[0]?] 182 (0,0))
 ch:Ch w bs ((0,0) :: xs)
 lo:B p
 los:∀ b∈bs,B b
 len:xs.length<=1000
theorem Que.keep{B:Nat->Prop}{w w':World}{p:Nat}{bs:List Nat}{xs:List (Int×Int)}(h:Que B w p bs xs)(hp:w'.heap[p]?=w.heap[p]?)(hk:∀ b∈bs,w'.heap[b]?=w.heap[b]?):Que B w' p bs xs :=
 ⟨hp.trans h.head,h.ch.keep hk,h.lo,h.los,h.len⟩
theorem Que.below{B:Nat->Prop}{w w':World}{p:Nat}{bs:List Nat}{xs:List (Int×Int)}(h:Que B w p bs xs)(hb:Below w.heap.size w w'):Que B w' p bs xs :=
 h.keep (hb.block p (at_lt h.head)) fun b hm=>hb.block b (h.ch.lt hm)
theorem Que.drew{B:Nat->Prop}{w:World}{p:Nat}{bs:List Nat}{xs:List (Int×Int)}(h:Que B w p bs xs)(k:Nat):Que B (w.drewN k) p bs xs:=h.below (below_drewN _ _)
theorem Que.blen{B:Nat->Prop}{w:World}{p:Nat}{bs:List Nat}{xs:List (Int×Int)}(h:Que B w p bs xs):bs.length=xs.length+1:=by rw [h.ch.len];rfl
def bat(bs:List Nat)(i:Nat):Nat:=bs.getD i 0
theorem bat_get{bs:List Nat}{i:Nat}(h:i < bs.length):bs[i]?=some (bat bs i):=by simp [bat,List.getD_eq_getElem?_getD,h]
theorem Que.start{B:Nat->Prop}{w:World}{p:Nat}{bs:List Nat}{xs:List (Int×Int)}(h:Que B w p bs xs):w.cell? ⟨p,0,none⟩=some (.pointer (some ⟨bat bs 0,0,none⟩)):=by
 rw [cell_of h.head,bat_get (by have:=h.blen;omega)]
 rfl
def yat(xs:List (Int×Int))(i:Nat):Int×Int:=((0,0) :: xs).getD i (0,0)
theorem yat_succ(xs:List (Int×Int))(i:Nat):yat xs (i+1)=xs.getD i (0,0):=rfl
def nxt(bs:List Nat)(i:Nat):Option Addr:=(bs[i+1]?).map fun b=>⟨b,0,none⟩
theorem nxt_some{bs:List Nat}{i:Nat}(h:i+1 < bs.length):nxt bs i=some ⟨bat bs (i+1),0,none⟩:=by rw [nxt,bat_get h];rfl
theorem nxt_none{bs:List Nat}{i:Nat}(h:bs.length<=i+1):nxt bs i=none:=by rw [nxt,List.getElem?_eq_none h];rfl
theorem Que.link{B:Nat->Prop}{w:World}{p:Nat}{bs:List Nat}{xs:List (Int×Int)}(h:Que B w p bs xs){i:Nat}(hi:i<=xs.length) :
  w.heap[bat bs i]?=some (.cells #[.int .i64 (yat xs i).1,.int .i64 (yat xs i).2,.pointer (nxt bs i)] 180 (0,0)):=by
 have hl:=h.blen
 refine h.ch.lnk i (bat bs i) (yat xs i) (bat_get (by omega)) ?_
 rw [yat,List.getD_eq_getElem?_getD,List.getElem?_eq_getElem (by simp;omega)]
 rfl
theorem Que.cells{B:Nat->Prop}{w:World}{p:Nat}{bs:List Nat}{xs:List (Int×Int)}(h:Que B w p bs xs){i:Nat}(hi:i<=xs.length) :
  w.cell? ⟨bat bs i,0,none⟩=some (.int .i64 (yat xs i).1)/\w.cell? ⟨bat bs i,1,none⟩=some (.int .i64 (yat xs i).2)/\w.cell? ⟨bat bs i,2,none⟩=some (.pointer (nxt bs i)):=by
 have:=h.link hi
 exact⟨by rw [cell_of this];rfl,by rw [cell_of this];rfl,by rw [cell_of this];rfl⟩
theorem Que.free{B:Nat->Prop}{w:World}{p:Nat}{bs:List Nat}{xs:List (Int×Int)}(h:Que B w p bs xs){i:Nat}(hi:i<=xs.length)(j:Nat):w.frozen? ⟨bat bs i,j,none⟩=false:=by
 have:=h.link hi
 simp [World.frozen?,this]
theorem Que.lt{B:Nat->Prop}{w:World}{p:Nat}{bs:List Nat}{xs:List (Int×Int)}(h:Que B w p bs xs){i:Nat}(hi:i<=xs.length):bat bs i < w.heap.size/\B (bat bs i) :=
 ⟨at_lt (h.link hi),h.los _ (List.mem_of_getElem? (bat_get (by have:=h.blen;omega)))⟩
theorem Que.nep{B:Nat->Prop}{w:World}{p:Nat}{bs:List Nat}{xs:List (Int×Int)}(h:Que B w p bs xs){b:Nat}(hb:b∈bs):p≠b:=by
 rintro rfl
 obtain⟨cs,e⟩:=h.ch.mem hb
 rw [h.head] at e
 simp at e
theorem Que.add{B:Nat->Prop}{w w1:World}{p:Nat}{bs:List Nat}{xs:List (Int×Int)}(h:Que B w p bs xs){k:Nat}(hk:k<=xs.length)(hl:xs.length < 1000)(z:Int×Int)(hB:Up B w)
  (hb:Below w.heap.size w w1) {nb:Nat} (hnb:w.heap.size<=nb) (hn:w1.heap[nb]?=some (.cells #[.int .i64 z.1,.int .i64 z.2,.pointer (nxt bs k)] 180 (0,0))) :
  Que B (w1.setCell ⟨bat bs k,2,none⟩ (.pointer (some ⟨nb,0,none⟩))) p (bs.insertIdx (k+1) nb) (xs.insertIdx k z)/\Ln B w (w1.setCell ⟨bat bs k,2,none⟩ (.pointer (some ⟨nb,0,none⟩))):=by
 have h1:=h.below hb
 have hbl:=h.blen
 have hlk:=h1.link hk
 have hlt:=h.lt hk
 have ha:=bat_get (bs:=bs) (i:=k) (by omega)
 have hyk:((0,0) :: xs)[k]?=some (yat xs k):=by rw [yat,List.getD_eq_getElem?_getD,List.getElem?_eq_getElem (by simp;omega)];rfl
 have hnm:nb ∉ bs:=fun hm=>by have:=h.ch.lt hm;omega
 refine⟨⟨?_,?_,h.lo,?_,?_⟩,(Ln.of hb hB).trans (Ln.cell hlk hlt.2 _ _)⟩
 ·rw [Below.heap_setCell _ _ _ _ (h.nep (List.mem_of_getElem? ha)),h1.head,List.getElem?_insertIdx_of_lt (by omega)]
 ·rw [←List.insertIdx_succ_cons]
  refine h1.ch.add (y:=yat xs k) (nb:=nb) ha hyk hnm ?_ ?_ fun b hm hne=>Below.heap_setCell _ _ _ _ hne
  ·rw [Below.heap_setCell _ _ _ _ (show nb≠bat bs k from fun e=>hnm (by rw [e];exact List.mem_of_getElem? ha)),hn];rfl
  ·rw [set_block hlk];rfl
 ·intro b hm
  rw [insert_split bs _ nb (by omega)] at hm
  rcases List.mem_cons.1 (List.perm_middle.mem_iff.1 hm) with rfl | hm
  ·exact hB _ hnb
  ·rw [List.take_append_drop] at hm
   exact h.los b hm
 ·rw [List.length_insertIdx_of_le_length hk];omega
theorem Que.drop{B:Nat->Prop}{w:World}{p:Nat}{bs:List Nat}{xs:List (Int×Int)}(h:Que B w p bs xs){k:Nat}(hk:k < xs.length) :
  Que B (w.setCell ⟨bat bs k,2,none⟩ (.pointer (nxt bs (k+1)))) p (bs.eraseIdx (k+1)) (xs.eraseIdx k)/\Ln B w (w.setCell ⟨bat bs k,2,none⟩ (.pointer (nxt bs (k+1)))):=by
 have hbl:=h.blen
 have hlk:=h.link (i:=k) (by omega)
 have hlt:=h.lt (i:=k) (by omega)
 have ha:=bat_get (bs:=bs) (i:=k) (by omega)
 have hyk:((0,0) :: xs)[k]?=some (yat xs k):=by rw [yat,List.getD_eq_getElem?_getD,List.getElem?_eq_getElem (by simp;omega)];rfl
 refine⟨⟨?_,?_,h.lo,fun b hm=>h.los b (List.mem_of_mem_eraseIdx hm),by rw [List.length_eraseIdx];have:=h.len;split <;> omega⟩,Ln.cell hlk hlt.2 _ _⟩
 ·rw [Below.heap_setCell _ _ _ _ (h.nep (List.mem_of_getElem? ha)),h.head,List.getElem?_eraseIdx,if_pos (by omega)]
 ·rw [←List.eraseIdx_cons_succ]
  refine h.ch.drop (y:=yat xs k) ha hyk ?_ fun b hm hne=>Below.heap_setCell _ _ _ _ hne
  rw [set_block hlk];rfl
theorem there_yes{B:Nat->Prop}{w:World}{p:Nat}{bs:List Nat}{xs:List (Int×Int)}(h:Que B w p bs xs) :
  Calls Tryz.prog 98 #[.pointer (some ⟨p,0,none⟩)] w fun e w'=>e=.returned (.bool true)/\w=w':=by
 have c0:=h.start
 clear h
 generalize bat bs 0=b at *
 go_enter Tryz.func98,Tryz.ntmps98
 go_wp2
 go_ret
 exact⟨rfl,rfl⟩
theorem isRank_any{w:World}(r:Int) :
  Calls Tryz.prog 177 #[.int .i64 r] w fun e w'=>e=.returned (.bool (decide (¬ badR r)))/\w=w':=by
 by_cases h0:r < 0
 ·have h1:¬ (0<=r):=by omega
  have e:decide (¬ badR r)=false:=by simp [badR];omega
  rw [e]
  clear e
  go_enter Tryz.func177,Tryz.ntmps177
  go_wp2
  go_ret
  exact⟨rfl,rfl⟩
 ·have h1:0<=r:=by omega
  by_cases h2:r<=31
  ·have e:decide (¬ badR r)=true:=by simp [badR];omega
   rw [e]
   clear e
   go_enter Tryz.func177,Tryz.ntmps177
   go_wp2
   go_ret
   exact⟨rfl,rfl⟩
  ·have e:decide (¬ badR r)=false:=by simp [badR];omega
   rw [e]
   clear e
   go_enter Tryz.func177,Tryz.ntmps177
   go_wp2
   go_ret
   exact⟨rfl,rfl⟩
theorem cWho_any{w:World}{c:Nat}{who:Int}(hc:w.cell? ⟨c,0,none⟩=some (.int .i64 who))(y:Int×Int)(b:Bool)(hb:(y.1 == who)=b) :
  Calls Tryz.prog 204 #[.agg #[.int .i64 y.1,.int .i64 y.2],.pointer (some ⟨c,0,none⟩)] w fun e w'=>e=.returned (.bool b)/\Below w.heap.size w w':=by
 obtain⟨y1,y2⟩:=y
 simp only at hb ⊢
 have hlt:=cell_lt hc
 have HB:Hid (Below w.heap.size w (w.alloc (.cells #[.int .i64 y1,.int .i64 y2] 177))):=alloc_below w _
 go_enter Tryz.func204,Tryz.ntmps204
 go_wp2
 go_ret
 exact⟨rfl,HB.out⟩
theorem cRank_any{w:World}{c:Nat}{r:Int}(hc:w.cell? ⟨c,1,none⟩=some (.int .i64 r))(y:Int×Int)(b:Bool)(hb:decide (y.2 < r)=b) :
  Calls Tryz.prog 202 #[.agg #[.int .i64 y.1,.int .i64 y.2],.pointer (some ⟨c,0,none⟩)] w fun e w'=>e=.returned (.bool b)/\Below w.heap.size w w':=by
 obtain⟨y1,y2⟩:=y
 simp only at hb ⊢
 have hlt:=cell_lt hc
 have HB:Hid (Below w.heap.size w (w.alloc (.cells #[.int .i64 y1,.int .i64 y2] 177))):=alloc_below w _
 go_enter Tryz.func202,Tryz.ntmps202
 go_wp2
 go_ret
 exact⟨rfl,HB.out⟩
theorem aheadW_any{B:Nat->Prop}{w:World}{p:Nat}{bs:List Nat}{xs:List (Int×Int)}(h:Que B w p bs xs){c:Nat}{v:Int}(hc:w.cell? ⟨c,0,none⟩=some (.int .i64 v)) :
  Calls Tryz.prog 201 #[.pointer (some ⟨bat bs 0,0,none⟩),.func (.func 204) #[] #[.pointer (some ⟨c,0,none⟩)]] w fun e w'=>e=.returned (.pointer (some ⟨bat bs (wi xs v),0,none⟩))/\Below w.heap.size w w':=by
 have HQ:Hid (Que B w p bs xs):=h
 have hclt:=cell_lt hc
 have HC:Hid (w.cell? ⟨c,0,none⟩=some (.int .i64 v)):=hc
 have HLE:Hid (wi xs v<=xs.length):=wi_le xs v
 clear h hc
 obtain⟨K,hK⟩:∃ K,wi xs v=K:=⟨_,rfl⟩
 rw [hK] at HLE ⊢
 have HK:Hid (wi xs v=K):=hK
 clear hK
 go_enter Tryz.func201,Tryz.ntmps201
 go_wp2
 go_loopg [0] K (fun g s0 wx=>∃ i:Nat,i+g=K/\s0=.pointer (some ⟨bat bs i,0,none⟩)/\Hid (Below w.heap.size w wx))
 case atStart=>exact⟨0,by omega,rfl,Below.refl _ _⟩
 case round =>
  obtain⟨i,hig,rfl,HB⟩:=hrel
  have hq:=HQ.out.below HB.out
  have hle:=HLE.out
  obtain⟨_,_,d2⟩:=hq.cells (i:=i) (by omega)
  have hcx:wr.cell? ⟨c,0,none⟩=some (.int .i64 v):=(HB.out.cell (p:=⟨c,0,none⟩) hclt).trans HC.out
  have HCX:Hid (wr.cell? ⟨c,0,none⟩=some (.int .i64 v)):=hcx
  cases gk with
  | zero =>
   obtain rfl:i=K:=by omega
   by_cases hl:i < xs.length
   ·have hb:(fun y:Int×Int=>y.1 == v) (xs.getD i (0,0))=true:=by
     have:=wi_at (xs:=xs) (who:=v) (by rw [HK.out];exact hl)
     rw [HK.out] at this
     simpa using this
    obtain⟨e0,e1,_⟩:=hq.cells (i:=i+1) (by omega)
    rw [yat_succ] at e0 e1
    rw [nxt_some (by have:=hq.blen;omega)] at d2
    have HCC:Hid (Calls Tryz.prog 204 #[.agg #[.int .i64 (xs.getD i (0,0)).1,.int .i64 (xs.getD i (0,0)).2],.pointer (some ⟨c,0,none⟩)] wr fun e w'=>e=.returned (.bool true)/\Below wr.heap.size wr w'):=cWho_any hcx (xs.getD i (0,0)) true hb
    clear hq hle hb hcx hl hclt
    generalize (xs.getD i (0,0)).1=y1 at *
    generalize (xs.getD i (0,0)).2=y2 at *
    generalize bat bs (i+1)=b2 at *
    generalize hb1:bat bs i=b1 at d2 ⊢
    have HE1:Hid (bat bs i=b1):=hb1
    clear hb1
    go_wp2_with (first |(go_at_call 204;refine HCC.out.mono ?_;rintro e w2 ⟨rfl,hb2⟩;have HB2:Hid (Below w.heap.size w w2):=HB.out.trans (hb2.mono HB.out.size);clear hb2))
    go_ret
    exact⟨by rw [HE1.out];rfl,HB2.out⟩
   ·rw [nxt_none (by have:=hq.blen;omega)] at d2
    clear hq hle hcx hclt
    generalize hb1:bat bs i=b1 at d2 ⊢
    have HE1:Hid (bat bs i=b1):=hb1
    clear hb1
    go_wp2
    go_ret
    exact⟨by rw [HE1.out];rfl,HB.out⟩
  | succ g' =>
   have hl:i < xs.length:=by omega
   have hb:(fun y:Int×Int=>y.1 == v) (xs.getD i (0,0))=false:=by
    have:=wi_no (xs:=xs) (who:=v) (i:=i) (by rw [HK.out];omega)
    simpa using this
   obtain⟨e0,e1,_⟩:=hq.cells (i:=i+1) (by omega)
   rw [yat_succ] at e0 e1
   rw [nxt_some (by have:=hq.blen;omega)] at d2
   have HCC:Hid (Calls Tryz.prog 204 #[.agg #[.int .i64 (xs.getD i (0,0)).1,.int .i64 (xs.getD i (0,0)).2],.pointer (some ⟨c,0,none⟩)] wr fun e w'=>e=.returned (.bool false)/\Below wr.heap.size wr w'):=cWho_any hcx (xs.getD i (0,0)) false hb
   have hlt:=(hq.lt (i:=i) (by omega)).1
   clear hq hle hb hcx hclt
   generalize (xs.getD i (0,0)).1=y1 at *
   generalize (xs.getD i (0,0)).2=y2 at *
   obtain⟨b2,hb2e⟩:∃ b2,bat bs (i+1)=b2:=⟨_,rfl⟩
   rw [hb2e] at d2 e0 e1
   have HE:Hid (bat bs (i+1)=b2):=hb2e
   clear hb2e
   generalize bat bs i=b1 at *
   go_wp2_with (first |(go_at_call 204;refine HCC.out.mono ?_;rintro e w2 ⟨rfl,hb2⟩;have k2:w2.cell? ⟨b1,2,none⟩=some (.pointer (some ⟨b2,0,none⟩)):=(hb2.cell (p:=⟨b1,2,none⟩) hlt).trans d2;have HB2:Hid (Below w.heap.size w w2):=HB.out.trans (hb2.mono HB.out.size);clear hb2))
   go_roundg g'
   case measure=>omega
   case rel=>exact⟨i+1,by omega,by rw [HE.out],HB2⟩
theorem aheadR_any{B:Nat->Prop}{w:World}{p:Nat}{bs:List Nat}{xs:List (Int×Int)}(h:Que B w p bs xs){c:Nat}{v:Int}(hc:w.cell? ⟨c,1,none⟩=some (.int .i64 v)) :
  Calls Tryz.prog 201 #[.pointer (some ⟨bat bs 0,0,none⟩),.func (.func 202) #[] #[.pointer (some ⟨c,0,none⟩)]] w fun e w'=>e=.returned (.pointer (some ⟨bat bs (ri xs v),0,none⟩))/\Below w.heap.size w w':=by
 have HQ:Hid (Que B w p bs xs):=h
 have hclt:=cell_lt hc
 have HC:Hid (w.cell? ⟨c,1,none⟩=some (.int .i64 v)):=hc
 have HLE:Hid (ri xs v<=xs.length):=ri_le xs v
 clear h hc
 obtain⟨K,hK⟩:∃ K,ri xs v=K:=⟨_,rfl⟩
 rw [hK] at HLE ⊢
 have HK:Hid (ri xs v=K):=hK
 clear hK
 go_enter Tryz.func201,Tryz.ntmps201
 go_wp2
 go_loopg [0] K (fun g s0 wx=>∃ i:Nat,i+g=K/\s0=.pointer (some ⟨bat bs i,0,none⟩)/\Hid (Below w.heap.size w wx))
 case atStart=>exact⟨0,by omega,rfl,Below.refl _ _⟩
 case round =>
  obtain⟨i,hig,rfl,HB⟩:=hrel
  have hq:=HQ.out.below HB.out
  have hle:=HLE.out
  obtain⟨_,_,d2⟩:=hq.cells (i:=i) (by omega)
  have hcx:wr.cell? ⟨c,1,none⟩=some (.int .i64 v):=(HB.out.cell (p:=⟨c,1,none⟩) hclt).trans HC.out
  have HCX:Hid (wr.cell? ⟨c,1,none⟩=some (.int .i64 v)):=hcx
  cases gk with
  | zero =>
   obtain rfl:i=K:=by omega
   by_cases hl:i < xs.length
   ·have hb:(fun y:Int×Int=>decide (y.2 < v)) (xs.getD i (0,0))=true:=by
     have:=ri_at (xs:=xs) (r:=v) (by rw [HK.out];exact hl)
     rw [HK.out] at this
     simpa using this
    obtain⟨e0,e1,_⟩:=hq.cells (i:=i+1) (by omega)
    rw [yat_succ] at e0 e1
    rw [nxt_some (by have:=hq.blen;omega)] at d2
    have HCC:Hid (Calls Tryz.prog 202 #[.agg #[.int .i64 (xs.getD i (0,0)).1,.int .i64 (xs.getD i (0,0)).2],.pointer (some ⟨c,0,none⟩)] wr fun e w'=>e=.returned (.bool true)/\Below wr.heap.size wr w'):=cRank_any hcx (xs.getD i (0,0)) true hb
    clear hq hle hb hcx hl hclt
    generalize (xs.getD i (0,0)).1=y1 at *
    generalize (xs.getD i (0,0)).2=y2 at *
    generalize bat bs (i+1)=b2 at *
    generalize hb1:bat bs i=b1 at d2 ⊢
    have HE1:Hid (bat bs i=b1):=hb1
    clear hb1
    go_wp2_with (first |(go_at_call 202;refine HCC.out.mono ?_;rintro e w2 ⟨rfl,hb2⟩;have HB2:Hid (Below w.heap.size w w2):=HB.out.trans (hb2.mono HB.out.size);clear hb2))
    go_ret
    exact⟨by rw [HE1.out];rfl,HB2.out⟩
   ·rw [nxt_none (by have:=hq.blen;omega)] at d2
    clear hq hle hcx hclt
    generalize hb1:bat bs i=b1 at d2 ⊢
    have HE1:Hid (bat bs i=b1):=hb1
    clear hb1
    go_wp2
    go_ret
    exact⟨by rw [HE1.out];rfl,HB.out⟩
  | succ g' =>
   have hl:i < xs.length:=by omega
   have hb:(fun y:Int×Int=>decide (y.2 < v)) (xs.getD i (0,0))=false:=by
    have:=ri_no (xs:=xs) (r:=v) (i:=i) (by rw [HK.out];omega)
    simp only [decide_eq_false_iff_not];omega
   obtain⟨e0,e1,_⟩:=hq.cells (i:=i+1) (by omega)
   rw [yat_succ] at e0 e1
   rw [nxt_some (by have:=hq.blen;omega)] at d2
   have HCC:Hid (Calls Tryz.prog 202 #[.agg #[.int .i64 (xs.getD i (0,0)).1,.int .i64 (xs.getD i (0,0)).2],.pointer (some ⟨c,0,none⟩)] wr fun e w'=>e=.returned (.bool false)/\Below wr.heap.size wr w'):=cRank_any hcx (xs.getD i (0,0)) false hb
   have hlt:=(hq.lt (i:=i) (by omega)).1
   clear hq hle hb hcx hclt
   generalize (xs.getD i (0,0)).1=y1 at *
   generalize (xs.getD i (0,0)).2=y2 at *
   obtain⟨b2,hb2e⟩:∃ b2,bat bs (i+1)=b2:=⟨_,rfl⟩
   rw [hb2e] at d2 e0 e1
   have HE:Hid (bat bs (i+1)=b2):=hb2e
   clear hb2e
   generalize bat bs i=b1 at *
   go_wp2_with (first |(go_at_call 202;refine HCC.out.mono ?_;rintro e w2 ⟨rfl,hb2⟩;have k2:w2.cell? ⟨b1,2,none⟩=some (.pointer (some ⟨b2,0,none⟩)):=(hb2.cell (p:=⟨b1,2,none⟩) hlt).trans d2;have HB2:Hid (Below w.heap.size w w2):=HB.out.trans (hb2.mono HB.out.size);clear hb2))
   go_roundg g'
   case measure=>omega
   case rel=>exact⟨i+1,by omega,by rw [HE.out],HB2⟩
theorem box_who(w:World)(v:Value)(t:TypeId):(w.alloc (.cells #[v] t)).cell? ⟨w.heap.size,0,none⟩=some v:=by rw [cell_of (alloc_at w _)];rfl
theorem aheadOf_any{B:Nat->Prop}{w:World}{p:Nat}{bs:List Nat}{xs:List (Int×Int)}(h:Que B w p bs xs)(who:Int) :
  Calls Tryz.prog 181 #[.pointer (some ⟨p,0,none⟩),.int .i64 who] w fun e w'=>e=.returned (.pointer (some ⟨bat bs (wi xs who),0,none⟩))/\Below w.heap.size w w':=by
 have hb:=alloc_below w (.cells #[.int .i64 who] 3)
 have HB:Hid (Below w.heap.size w (w.alloc (.cells #[.int .i64 who] 3))):=hb
 have HA:Hid (Calls Tryz.prog 201 #[.pointer (some ⟨bat bs 0,0,none⟩),.func (.func 204) #[] #[.pointer (some ⟨w.heap.size,0,none⟩)]] (w.alloc (.cells #[.int .i64 who] 3)) fun e w'=>e=.returned (.pointer (some ⟨bat bs (wi xs who),0,none⟩))/\Below (w.alloc (.cells #[.int .i64 who] 3)).heap.size (w.alloc (.cells #[.int .i64 who] 3)) w'):=aheadW_any (h.below hb) (box_who w _ _)
 have c0:=h.start
 have hlt:=at_lt h.head
 clear h hb
 generalize bat bs 0=b at *
 generalize bat bs (wi xs who)=b2 at *
 go_enter Tryz.func181,Tryz.ntmps181
 go_wp2_with (first |(go_at_call 201;refine HA.out.mono ?_;rintro e w2 ⟨rfl,hb2⟩;have HB2:Hid (Below w.heap.size w w2):=HB.out.trans (hb2.mono HB.out.size);clear hb2))
 go_ret
 exact⟨rfl,HB2.out⟩
theorem find_yes{B:Nat->Prop}{w:World}{p:Nat}{bs:List Nat}{xs:List (Int×Int)}(h:Que B w p bs xs){who:Int}(hh:has xs who=true) :
  Calls Tryz.prog 143 #[.pointer (some ⟨p,0,none⟩),.int .i64 who] w fun e w'=>e=.returned (.tuple #[.pointer (some ⟨bat bs (wi xs who),0,none⟩),.int .i64 0])/\Below w.heap.size w w':=by
 have hlt:=has_lt hh
 have HT:=there_yes h
 have HA:=aheadOf_any h who
 have d2:=(h.cells (i:=wi xs who) (by omega)).2.2
 have hbl:=(h.lt (i:=wi xs who) (by omega)).1
 rw [nxt_some (by have:=h.blen;omega)] at d2
 clear h hh hlt
 generalize bat bs (wi xs who+1)=b2 at *
 generalize bat bs (wi xs who)=b1 at *
 go_enter Tryz.func143,Tryz.ntmps143
 go_wp2_with (first
  |(go_at_call 98;refine HT.mono ?_;rintro e wx ⟨rfl,rfl⟩)
  |(go_at_call 181;refine HA.mono ?_;rintro e w2 ⟨rfl,hb2⟩;have k2:=(hb2.cell (p:=⟨b1,2,none⟩) hbl).trans d2;have HB2:Hid (Below _ _ w2):=hb2;clear hb2))
 go_ret2
 exact⟨rfl,HB2.out⟩
theorem find_no{B:Nat->Prop}{w:World}{p:Nat}{bs:List Nat}{xs:List (Int×Int)}(h:Que B w p bs xs){who:Int}(hh:has xs who=false) :
  Calls Tryz.prog 143 #[.pointer (some ⟨p,0,none⟩),.int .i64 who] w fun e w'=>e=.returned (.tuple #[.pointer none,.int .i64 1])/\Below w.heap.size w w':=by
 have hge:=has_ge hh
 have HT:=there_yes h
 have HA:=aheadOf_any h who
 have d2:=(h.cells (i:=wi xs who) (by omega)).2.2
 have hbl:=(h.lt (i:=wi xs who) (by omega)).1
 rw [nxt_none (by have:=h.blen;omega)] at d2
 clear h hh hge
 generalize bat bs (wi xs who)=b1 at *
 go_enter Tryz.func143,Tryz.ntmps143
 go_wp2_with (first
  |(go_at_call 98;refine HT.mono ?_;rintro e wx ⟨rfl,rfl⟩)
  |(go_at_call 181;refine HA.mono ?_;rintro e w2 ⟨rfl,hb2⟩;have k2:=(hb2.cell (p:=⟨b1,2,none⟩) hbl).trans d2;have HB2:Hid (Below _ _ w2):=hb2;clear hb2))
 go_ret2
 exact⟨rfl,HB2.out⟩
theorem lDrop_any{B:Nat->Prop}{w:World}{p:Nat}{bs:List Nat}{xs:List (Int×Int)}(h:Que B w p bs xs){k:Nat}(hk:k < xs.length) :
  Calls Tryz.prog 144 #[.pointer (some ⟨bat bs k,0,none⟩)] w fun e w'=>e=.returned (.tuple #[])/\(∃ bs',Que B w' p bs' (xs.eraseIdx k))/\Ln B w w':=by
 have HD:Hid (Que B (w.setCell ⟨bat bs k,2,none⟩ (.pointer (nxt bs (k+1)))) p (bs.eraseIdx (k+1)) (xs.eraseIdx k)/\Ln B w (w.setCell ⟨bat bs k,2,none⟩ (.pointer (nxt bs (k+1))))):=h.drop hk
 have d2:=(h.cells (i:=k) (by omega)).2.2
 have f2:=h.free (i:=k) (by omega) 2
 have e2:=(h.cells (i:=k+1) (by omega)).2.2
 rw [nxt_some (by have:=h.blen;omega)] at d2
 clear h
 generalize bat bs (k+1)=b2 at *
 generalize bat bs k=b1 at *
 generalize nxt bs (k+1)=n at *
 go_enter Tryz.func144,Tryz.ntmps144
 go_wp2
 go_end0
 exact⟨rfl,⟨_,HD.out.1⟩,HD.out.2⟩
theorem past2(w:World)(o1 o2:Obj)(b i:Nat)(v:Value)(h:b < w.heap.size):((w.setCell ⟨b,i,none⟩ v).alloc o1).alloc o2=((w.alloc o1).alloc o2).setCell ⟨b,i,none⟩ v:=by
 rw [World.setCell_alloc_past (w:=w.alloc o1) o2 b i v (by rw [alloc_size];omega),World.setCell_alloc_past (w:=w) o1 b i v h]
theorem Que.drew1{B:Nat->Prop}{w:World}{p:Nat}{bs:List Nat}{xs:List (Int×Int)}(h:Que B w p bs xs):Que B w.drew p bs xs:=h.drew 1
theorem Ln.drew{B:Nat->Prop}{w w':World}(h:Ln B w w')(hB:Up B w'):Ln B w w'.drew:=h.trans (Ln.of (below_drewN _ 1) hB)
theorem lAdd_any{B:Nat->Prop}{w:World}{p:Nat}{bs:List Nat}{xs:List (Int×Int)}(h:Que B w p bs xs){k:Nat}(hk:k<=xs.length)(hl:xs.length < 1000)(z1 z2:Int)(hB:Up B w) :
  Calls Tryz.prog 203 #[.pointer (some ⟨bat bs k,0,none⟩),.agg #[.int .i64 z1,.int .i64 z2]] w fun e w'=>e=.returned (.tuple #[])/\(∃ bs',Que B w' p bs' (xs.insertIdx k (z1,z2)))/\Ln B w w':=by
 have d2:=(h.cells (i:=k) (by omega)).2.2
 have f2:=h.free (i:=k) (by omega) 2
 have hlt:=(h.lt (i:=k) (by omega)).1
 have HE:Hid ((∃ bs',Que B (((w.setCell ⟨bat bs k,2,none⟩ (.pointer (some ⟨w.heap.size+1,0,none⟩))).alloc (.cells #[.int .i64 z1,.int .i64 z2] 177)).alloc (.cells #[.int .i64 z1,.int .i64 z2,.pointer (nxt bs k)] 180)).drew p bs' (xs.insertIdx k (z1,z2)))/\Ln B w (((w.setCell ⟨bat bs k,2,none⟩ (.pointer (some ⟨w.heap.size+1,0,none⟩))).alloc (.cells #[.int .i64 z1,.int .i64 z2] 177)).alloc (.cells #[.int .i64 z1,.int .i64 z2,.pointer (nxt bs k)] 180)).drew):=by
  have h1:=alloc_below w (.cells #[.int .i64 z1,.int .i64 z2] 177)
  have h2:=alloc_below (w.alloc (.cells #[.int .i64 z1,.int .i64 z2] 177)) (.cells #[.int .i64 z1,.int .i64 z2,.pointer (nxt bs k)] 180)
  have hs:=alloc_size w (.cells #[.int .i64 z1,.int .i64 z2] 177)
  have hA:=alloc_at (w.alloc (.cells #[.int .i64 z1,.int .i64 z2] 177)) (.cells #[.int .i64 z1,.int .i64 z2,.pointer (nxt bs k)] 180)
  rw [hs] at hA
  have hq:=h.add hk hl (z1,z2) hB (h1.trans (h2.mono h1.size)) (nb:=w.heap.size+1) (by omega) hA
  rw [past2 w _ _ _ _ _ hlt]
  exact⟨⟨_,hq.1.drew1⟩,hq.2.drew (hB.up hq.2.low.size)⟩
 clear h
 generalize nxt bs k=n at *
 generalize bat bs k=b1 at *
 go_enter Tryz.func203,Tryz.ntmps203
 go_wp2
 go_region
 all_goals
  go_wp2
  go_end0
  exact⟨rfl,HE.out⟩
/-- somebody is added by their rank -/
theorem qadd_any{B:Nat->Prop}{w:World}{p:Nat}{bs:List Nat}{xs:List (Int×Int)}(h:Que B w p bs xs)(hl:xs.length < 1000)(z1 z2:Int)(hB:Up B w) :
  Calls Tryz.prog 178 #[.pointer (some ⟨p,0,none⟩),.agg #[.int .i64 z1,.int .i64 z2]] w fun e w'=>e=.returned (.tuple #[])/\(∃ bs',Que B w' p bs' (ins xs (z1,z2)))/\Ln B w w':=by
 have hb:=alloc_below w (.cells #[.int .i64 z1,.int .i64 z2] 177)
 obtain⟨w0,hw0⟩:∃ w0,w.alloc (.cells #[.int .i64 z1,.int .i64 z2] 177)=w0:=⟨_,rfl⟩
 have hat:=alloc_at w (.cells #[.int .i64 z1,.int .i64 z2] 177)
 rw [hw0] at hb hat
 have HAT:Hid (w0.heap[w.heap.size]?=some (.cells #[.int .i64 z1,.int .i64 z2] 177 (0,0))):=hat
 have HQ:Hid (Que B w0.drew p bs xs):=(h.below hb).drew1
 have HB:Hid (Below w.heap.size w w0.drew):=hb.trans ((below_drewN w0 1).mono hb.size)
 have x0:w0.cell? ⟨w.heap.size,0,none⟩=some (.int .i64 z1):=by rw [cell_of hat];rfl
 have x1:w0.cell? ⟨w.heap.size,1,none⟩=some (.int .i64 z2):=by rw [cell_of hat];rfl
 have c0:w0.cell? ⟨p,0,none⟩=some (.pointer (some ⟨bat bs 0,0,none⟩)):=(h.below hb).start
 have HCL:Hid (w.heap.size < w0.drew.heap.size):=at_lt hat
 have HPL:Hid (p < w0.drew.heap.size):=at_lt (h.below hb).head
 have HRI:Hid (ri xs z2<=xs.length):=ri_le xs z2
 have HAA:Hid (Calls Tryz.prog 201 #[.pointer (some ⟨bat bs 0,0,none⟩),.func (.func 202) #[] #[.pointer (some ⟨w.heap.size,0,none⟩)]] w0.drew fun e w'=>e=.returned (.pointer (some ⟨bat bs (ri xs z2),0,none⟩))/\Below w0.drew.heap.size w0.drew w'):=aheadR_any HQ.out (show w0.drew.cell? ⟨w.heap.size,1,none⟩=some (.int .i64 z2) from x1)
 have HAD:Hid (∀ w',Que B w' p bs xs->Up B w'->Calls Tryz.prog 203 #[.pointer (some ⟨bat bs (ri xs z2),0,none⟩),.agg #[.int .i64 z1,.int .i64 z2]] w' fun e w''=>e=.returned (.tuple #[])/\(∃ bs',Que B w'' p bs' (xs.insertIdx (ri xs z2) (z1,z2)))/\Ln B w' w''):=fun w' hq hB'=>lAdd_any hq HRI.out hl z1 z2 hB'
 have HKP:Hid (∀ w2,Below w0.drew.heap.size w0.drew w2->∀ w3,Ln B w2 w3->w3.cell? ⟨p,0,none⟩=some (.pointer (some ⟨bat bs 0,0,none⟩))/\w3.cell? ⟨w.heap.size,0,none⟩=some (.int .i64 z1)/\w3.cell? ⟨w.heap.size,1,none⟩=some (.int .i64 z2)):=fun w2 hb2 w3 hl3=>by
  have h1:w2.heap[p]?=some (.cells #[lp bs[0]?] 182 (0,0)):=(hb2.block p HPL.out).trans (h.below hb).head
  have h2:w2.heap[w.heap.size]?=some (.cells #[.int .i64 z1,.int .i64 z2] 177 (0,0)):=(hb2.block _ HCL.out).trans hat
  have h3:=(hl3.oth _ _ _ _ h1 (by decide)).trans h1
  have h4:=(hl3.oth _ _ _ _ h2 (by decide)).trans h2
  refine⟨?_,by rw [cell_of h4];rfl,by rw [cell_of h4];rfl⟩
  rw [cell_of h3,bat_get (by have:=h.blen;omega)]
  rfl
 clear h hat hb
 have HI:Hid (ins xs (z1,z2)=xs.insertIdx (ri xs z2) (z1,z2)):=rfl
 generalize bat bs 0=b at *
 generalize bat bs (ri xs z2)=b2 at *
 go_enter Tryz.func178,Tryz.ntmps178
 go_wp2
 obtain⟨c,hc⟩:∃ c,w.heap.size=c:=⟨_,rfl⟩
 simp only [hw0,hc]
 have HC:Hid (w.heap.size=c):=hc
 simp only [hc] at x0 x1 HAA HCL HKP
 clear hw0 hc
 go_region_held3 (fun w'=>w'.cell? ⟨p,0,none⟩=some (.pointer (some ⟨b,0,none⟩))/\w'.cell? ⟨c,0,none⟩=some (.int .i64 z1)/\w'.cell? ⟨c,1,none⟩=some (.int .i64 z2)) (go_keep) (first
  |(go_at_call 203;refine(HAD.out _ (HQ.out.below HB2.out) (hB.up (Nat.le_trans HB.out.size HB2.out.size))).mono ?_;rintro e w3 ⟨rfl,q3,l3⟩;have y0:=(HLK.out w3 l3).1;have y1:=(HLK.out w3 l3).2.1;have y2:=(HLK.out w3 l3).2.2;have H3:Hid ((∃ bs',Que B w3 p bs' (xs.insertIdx (ri xs z2) (z1,z2)))/\Ln B w w3):=⟨q3,(Ln.of (HB.out.trans (HB2.out.mono HB.out.size)) hB).trans l3⟩;clear q3 l3)
  |(go_at_call 201;refine HAA.out.mono ?_;rintro e w2 ⟨rfl,hb2⟩;have kp:=(hb2.cell (p:=⟨p,0,none⟩) HPL.out).trans c0;have k0:=(hb2.cell (p:=⟨c,0,none⟩) HCL.out).trans x0;have k1:=(hb2.cell (p:=⟨c,1,none⟩) HCL.out).trans x1;have HB2:Hid (Below w0.drew.heap.size w0.drew w2):=hb2;have HLK:Hid (∀ w3,Ln B w2 w3->w3.cell? ⟨p,0,none⟩=some (.pointer (some ⟨b,0,none⟩))/\w3.cell? ⟨c,0,none⟩=some (.int .i64 z1)/\w3.cell? ⟨c,1,none⟩=some (.int .i64 z2)):=HKP.out w2 hb2;clear hb2))
 all_goals
  go_wp2
  go_end0
  rw [HI.out]
  exact⟨rfl,H3.out⟩
def Qu(B:Nat->Prop)(w:World)(p:Nat)(xs:List (Int×Int)):Prop:=∃ bs,Que B w p bs xs
theorem Qu.below{B:Nat->Prop}{w w':World}{p:Nat}{xs:List (Int×Int)}(h:Qu B w p xs)(hb:Below w.heap.size w w'):Qu B w' p xs:=by
 obtain⟨bs,h⟩:=h
 exact⟨bs,h.below hb⟩
theorem Qu.len{B:Nat->Prop}{w:World}{p:Nat}{xs:List (Int×Int)}(h:Qu B w p xs):xs.length<=1000:=by
 obtain⟨bs,h⟩:=h
 exact h.len
theorem qnew_any(w:World){B:Nat->Prop}(hB:Up B w) :
  Calls Tryz.prog 74 #[] w fun e w'=>e=.returned (.pointer (some ⟨w.heap.size+1,0,none⟩))/\Qu B w' (w.heap.size+1) []/\Below w.heap.size w w':=by
 have h1:=alloc_below w (.cells #[.int .i64 0,.int .i64 0,.pointer none] 180)
 have h2:=alloc_below (w.alloc (.cells #[.int .i64 0,.int .i64 0,.pointer none] 180)) (.cells #[.pointer (some ⟨w.heap.size,0,none⟩)] 182)
 have hs:=alloc_size w (.cells #[.int .i64 0,.int .i64 0,.pointer none] 180)
 have a1:=alloc_at w (.cells #[.int .i64 0,.int .i64 0,.pointer none] 180)
 have a2:=alloc_at (w.alloc (.cells #[.int .i64 0,.int .i64 0,.pointer none] 180)) (.cells #[.pointer (some ⟨w.heap.size,0,none⟩)] 182)
 rw [hs] at a2
 have b1:=(h2.block w.heap.size (by rw [hs];omega)).trans a1
 have HE:Hid (Qu B ((w.alloc (.cells #[.int .i64 0,.int .i64 0,.pointer none] 180)).alloc (.cells #[.pointer (some ⟨w.heap.size,0,none⟩)] 182)) (w.heap.size+1) []/\Below w.heap.size w ((w.alloc (.cells #[.int .i64 0,.int .i64 0,.pointer none] 180)).alloc (.cells #[.pointer (some ⟨w.heap.size,0,none⟩)] 182))):=by
  refine⟨⟨[w.heap.size],a2,⟨rfl,by simp,fun i b y hb hy=>?_⟩,hB _ (by omega),fun b hb=>by rw [List.mem_singleton.1 hb];exact hB _ (Nat.le_refl _),by simp⟩,h1.trans (h2.mono h1.size)⟩
  rcases i with _ | i
  ·simp only [List.getElem?_cons_zero,Option.some.injEq] at hb hy
   subst hb hy
   exact b1
  ·simp at hb
 clear h1 h2 a1 a2 b1 hs
 go_enter Tryz.func74,Tryz.ntmps74
 go_wp2
 go_ret
 exact⟨rfl,HE.out⟩
theorem qput_any{B:Nat->Prop}{w:World}{p:Nat}{xs:List (Int×Int)}(h:Qu B w p xs)(hl:xs.length < 1000)(who r:Int)(hB:Up B w) :
  Calls Tryz.prog 190 #[.pointer (some ⟨p,0,none⟩),.int .i64 who,.int .i64 r] w fun e w'=>e=.returned (.int .i64 (putE xs who r))/\Qu B w' p (putL xs who r)/\Ln B w w':=by
 obtain⟨bs,h⟩:=h
 have HQ:Hid (Que B w p bs xs):=h
 have HT:=there_yes h
 have HL0:Hid (Ln B w w):=Ln.refl _ _
 by_cases h0:who < 0
 ·have e:putE xs who r=1:=by simp [putE,badA,h0]
  have e2:putL xs who r=xs:=by simp [putL,badA,h0]
  rw [e,e2]
  clear e e2 h
  go_enter Tryz.func190,Tryz.ntmps190
  go_wp2_with (first |(go_at_call 98;refine HT.mono ?_;rintro e wx ⟨rfl,rfl⟩))
  go_ret
  exact⟨rfl,⟨bs,HQ.out⟩,HL0.out⟩
 ·have HR:=isRank_any (w:=w) r
  by_cases hr:badR r
  ·have e:putE xs who r=1:=by unfold badR at hr;simp [putE,badA,hr]
   have e2:putL xs who r=xs:=by unfold badR at hr;simp [putL,badA,hr]
   have e3:decide (¬ badR r)=false:=by simp [hr]
   rw [e,e2]
   rw [e3] at HR
   clear e e2 e3 h hr
   go_enter Tryz.func190,Tryz.ntmps190
   go_wp2_with (first |(go_at_call 98;refine HT.mono ?_;rintro e wx ⟨rfl,rfl⟩) |(go_at_call 177;refine HR.mono ?_;rintro e wx ⟨rfl,rfl⟩))
   go_ret
   exact⟨rfl,⟨bs,HQ.out⟩,HL0.out⟩
  ·have hbad:¬ badA who r:=by unfold badR at hr;unfold badA;omega
   have e3:decide (¬ badR r)=true:=by simp [hr]
   rw [e3] at HR
   have HA:=aheadOf_any h who
   have hle:=wi_le xs who
   have d2:=(h.cells (i:=wi xs who) (by omega)).2.2
   have hbl:=(h.lt (i:=wi xs who) (by omega)).1
   by_cases hh:has xs who=true
   ·have e:putE xs who r=7:=by simp [putE,hbad,hh]
    have e2:putL xs who r=xs:=by simp [putL,hbad,hh]
    rw [e,e2]
    rw [nxt_some (by have:=h.blen;have:=has_lt hh;omega)] at d2
    clear e e2 e3 h hr hh hbad hle
    generalize bat bs (wi xs who+1)=b2 at *
    generalize bat bs (wi xs who)=b1 at *
    go_enter Tryz.func190,Tryz.ntmps190
    go_wp2_with (first
     |(go_at_call 98;refine HT.mono ?_;rintro e wx ⟨rfl,rfl⟩)
     |(go_at_call 177;refine HR.mono ?_;rintro e wx ⟨rfl,rfl⟩)
     |(go_at_call 181;refine HA.mono ?_;rintro e w2 ⟨rfl,hb2⟩;have k2:=(hb2.cell (p:=⟨b1,2,none⟩) hbl).trans d2;have HB2:Hid (Below _ _ w2):=hb2;clear hb2))
    go_ret
    exact⟨rfl,⟨bs,HQ.out.below HB2.out⟩,Ln.of HB2.out hB⟩
   ·have hh':has xs who=false:=by simpa using hh
    have e:putE xs who r=0:=by simp [putE,hbad,hh']
    have e2:putL xs who r=ins xs (who,r):=by simp [putL,hbad,hh']
    rw [e,e2]
    rw [nxt_none (by have:=h.blen;have:=has_ge hh';omega)] at d2
    have HAD:Hid (∀ w',Que B w' p bs xs->Up B w'->Calls Tryz.prog 178 #[.pointer (some ⟨p,0,none⟩),.agg #[.int .i64 who,.int .i64 r]] w' fun e w''=>e=.returned (.tuple #[])/\(∃ bs',Que B w'' p bs' (ins xs (who,r)))/\Ln B w' w''):=fun w' hq hB'=>qadd_any hq hl who r hB'
    clear e e2 e3 h hr hh hh' hbad hle
    generalize ins xs (who,r)=zs at *
    generalize bat bs (wi xs who)=b1 at *
    go_enter Tryz.func190,Tryz.ntmps190
    go_wp2_with (first
     |(go_at_call 98;refine HT.mono ?_;rintro e wx ⟨rfl,rfl⟩)
     |(go_at_call 177;refine HR.mono ?_;rintro e wx ⟨rfl,rfl⟩)
     |(go_at_call 181;refine HA.mono ?_;rintro e w2 ⟨rfl,hb2⟩;have k2:=(hb2.cell (p:=⟨b1,2,none⟩) hbl).trans d2;have HB2:Hid (Below w.heap.size w w2):=hb2;clear hb2)
     |(go_at_call 178;refine(HAD.out _ (HQ.out.below HB2.out) (hB.up HB2.out.size)).mono ?_;rintro e w3 ⟨rfl,q3,l3⟩;have H3:Hid (Qu B w3 p zs/\Ln B w w3):=⟨q3,(Ln.of HB2.out hB).trans l3⟩;clear q3 l3))
    go_ret
    exact⟨rfl,H3.out⟩
theorem qremove_any{B:Nat->Prop}{w:World}{p:Nat}{xs:List (Int×Int)}(h:Qu B w p xs)(who:Int)(hB:Up B w) :
  Calls Tryz.prog 103 #[.pointer (some ⟨p,0,none⟩),.int .i64 who] w fun e w'=>e=.returned (.int .i64 (remE xs who))/\Qu B w' p (gone xs who)/\Ln B w w':=by
 obtain⟨bs,h⟩:=h
 have HQ:Hid (Que B w p bs xs):=h
 by_cases hh:has xs who=true
 ·have e:remE xs who=0:=by simp [remE,hh]
  have HF:=find_yes h hh
  have HD:Hid (∀ w',Que B w' p bs xs->Calls Tryz.prog 144 #[.pointer (some ⟨bat bs (wi xs who),0,none⟩)] w' fun e w''=>e=.returned (.tuple #[])/\(∃ bs',Que B w'' p bs' (gone xs who))/\Ln B w' w''):=fun w' hq=>lDrop_any hq (has_lt hh)
  rw [e]
  clear e h hh
  generalize gone xs who=zs at *
  generalize bat bs (wi xs who)=b1 at *
  go_enter Tryz.func103,Tryz.ntmps103
  go_wp2_with (first
   |(go_at_call 143;refine HF.mono ?_;rintro e w2 ⟨rfl,hb2⟩;have HB2:Hid (Below w.heap.size w w2):=hb2;clear hb2)
   |(go_at_call 144;refine(HD.out _ (HQ.out.below HB2.out)).mono ?_;rintro e w3 ⟨rfl,q3,l3⟩;have H3:Hid (Qu B w3 p zs/\Ln B w w3):=⟨q3,(Ln.of HB2.out hB).trans l3⟩;clear q3 l3))
  go_ret
  exact⟨rfl,H3.out⟩
 ·have hh':has xs who=false:=by simpa using hh
  have e:remE xs who=1:=by simp [remE,hh']
  have HF:=find_no h hh'
  rw [e,gone_no hh']
  clear e h hh hh'
  go_enter Tryz.func103,Tryz.ntmps103
  go_wp2_with (first
   |(go_at_call 143;refine HF.mono ?_;rintro e w2 ⟨rfl,hb2⟩;have HB2:Hid (Below w.heap.size w w2):=hb2;clear hb2))
  go_ret
  exact⟨rfl,⟨bs,HQ.out.below HB2.out⟩,Ln.of HB2.out hB⟩
theorem qchange_any{B:Nat->Prop}{w:World}{p:Nat}{xs:List (Int×Int)}(h:Qu B w p xs)(who r:Int)(hB:Up B w) :
  Calls Tryz.prog 138 #[.pointer (some ⟨p,0,none⟩),.int .i64 who,.int .i64 r] w fun e w'=>e=.returned (.int .i64 (chE xs who r))/\Qu B w' p (chL xs who r)/\Ln B w w':=by
 obtain⟨bs,h⟩:=h
 have HQ:Hid (Que B w p bs xs):=h
 by_cases hh:has xs who=true
 ·have HF:=find_yes h hh
  have hlt:=has_lt hh
  have hlen:=h.len
  have HR:Hid (∀ w':World,Calls Tryz.prog 177 #[.int .i64 r] w' fun e w''=>e=.returned (.bool (decide (¬ badR r)))/\w'=w''):=fun w'=>isRank_any r
  by_cases hr:badR r
  ·have e:chE xs who r=1:=by simp [chE,hh,hr]
   have e2:chL xs who r=xs:=by simp [chL,hh,hr]
   have e3:decide (¬ badR r)=false:=by simp [hr]
   rw [e3] at HR
   rw [e,e2]
   clear e e2 e3 h hh hr hlt
   generalize bat bs (wi xs who)=b1 at *
   go_enter Tryz.func138,Tryz.ntmps138
   go_wp2_with (first
    |(go_at_call 143;refine HF.mono ?_;rintro e w2 ⟨rfl,hb2⟩;have HB2:Hid (Below w.heap.size w w2):=hb2;clear hb2)
    |(go_at_call 177;refine(HR.out _).mono ?_;rintro e wx ⟨rfl,rfl⟩))
   go_ret
   exact⟨rfl,⟨bs,HQ.out.below HB2.out⟩,Ln.of HB2.out hB⟩
  ·have e:chE xs who r=0:=by simp [chE,hh,hr]
   have e3:decide (¬ badR r)=true:=by simp [hr]
   rw [e3] at HR
   rw [e]
   have d2:=(h.cells (i:=wi xs who) (by omega)).2.2
   have hbl:=(h.lt (i:=wi xs who) (by omega)).1
   rw [nxt_some (by have:=h.blen;omega)] at d2
   have r2:=(h.cells (i:=wi xs who+1) (by omega)).2.1
   have hbl2:=(h.lt (i:=wi xs who+1) (by omega)).1
   rw [yat_succ] at r2
   have hrk:(xs.getD (wi xs who) (0,0)).2=rkOf xs who:=rfl
   rw [hrk] at r2
   by_cases hs:rkOf xs who=r
   ·have e2:chL xs who r=xs:=by simp [chL,hh,hr,hs]
    rw [e2]
    rw [hs] at r2
    clear e e2 e3 h hh hr hlt hrk hs
    generalize bat bs (wi xs who+1)=b2 at *
    generalize bat bs (wi xs who)=b1 at *
    go_enter Tryz.func138,Tryz.ntmps138
    go_wp2_with (first
     |(go_at_call 143;refine HF.mono ?_;rintro e w2 ⟨rfl,hb2⟩;have k2:=(hb2.cell (p:=⟨b1,2,none⟩) hbl).trans d2;have k3:=(hb2.cell (p:=⟨b2,1,none⟩) hbl2).trans r2;have HB2:Hid (Below w.heap.size w w2):=hb2;clear hb2)
     |(go_at_call 177;refine(HR.out _).mono ?_;rintro e wx ⟨rfl,rfl⟩))
    go_ret
    exact⟨rfl,⟨bs,HQ.out.below HB2.out⟩,Ln.of HB2.out hB⟩
   ·have e2:chL xs who r=ins (gone xs who) (who,r):=by simp [chL,hh,hr,hs]
    have hlg:(gone xs who).length < 1000:=by have:=gone_len' hh;omega
    have HD:Hid (∀ w',Que B w' p bs xs->Calls Tryz.prog 144 #[.pointer (some ⟨bat bs (wi xs who),0,none⟩)] w' fun e w''=>e=.returned (.tuple #[])/\(∃ bs',Que B w'' p bs' (gone xs who))/\Ln B w' w''):=fun w' hq=>lDrop_any hq hlt
    have HAD:Hid (∀ w' bs,Que B w' p bs (gone xs who)->Up B w'->Calls Tryz.prog 178 #[.pointer (some ⟨p,0,none⟩),.agg #[.int .i64 who,.int .i64 r]] w' fun e w''=>e=.returned (.tuple #[])/\(∃ bs',Que B w'' p bs' (ins (gone xs who) (who,r)))/\Ln B w' w''):=fun w' bs' hq hB'=>qadd_any hq hlg who r hB'
    rw [e2]
    have hsb:(rkOf xs who == r)=false:=by simpa using hs
    clear e e2 e3 h hh hr hlt hrk hlg
    generalize ins (gone xs who) (who,r)=zs at *
    generalize gone xs who=ys at *
    generalize rkOf xs who=r0 at *
    generalize bat bs (wi xs who+1)=b2 at *
    generalize bat bs (wi xs who)=b1 at *
    go_enter Tryz.func138,Tryz.ntmps138
    go_wp2_with (first
     |(go_at_call 143;refine HF.mono ?_;rintro e w2 ⟨rfl,hb2⟩;have k2:=(hb2.cell (p:=⟨b1,2,none⟩) hbl).trans d2;have k3:=(hb2.cell (p:=⟨b2,1,none⟩) hbl2).trans r2;have HB2:Hid (Below w.heap.size w w2):=hb2;clear hb2)
     |(go_at_call 177;refine(HR.out _).mono ?_;rintro e wx ⟨rfl,rfl⟩)
     |(go_at_call 144;refine(HD.out _ (HQ.out.below HB2.out)).mono ?_;rintro e w3 ⟨rfl,⟨bs3,q3⟩,l3⟩;have Q3:Hid (Que B w3 p bs3 ys):=q3;have L3:Hid (Ln B w w3):=(Ln.of HB2.out hB).trans l3;clear q3 l3)
     |(go_at_call 178;refine(HAD.out _ _ Q3.out (hB.up L3.out.low.size)).mono ?_;rintro e w4 ⟨rfl,q4,l4⟩;have H4:Hid (Qu B w4 p zs/\Ln B w w4):=⟨q4,L3.out.trans l4⟩;clear q4 l4))
    go_ret
    exact⟨rfl,H4.out⟩
 ·have hh':has xs who=false:=by simpa using hh
  have e:chE xs who r=1:=by simp [chE,hh']
  have e2:chL xs who r=xs:=by simp [chL,hh']
  have HF:=find_no h hh'
  rw [e,e2]
  clear e e2 h hh hh'
  go_enter Tryz.func138,Tryz.ntmps138
  go_wp2_with (first
   |(go_at_call 143;refine HF.mono ?_;rintro e w2 ⟨rfl,hb2⟩;have HB2:Hid (Below w.heap.size w w2):=hb2;clear hb2))
  go_ret
  exact⟨rfl,⟨bs,HQ.out.below HB2.out⟩,Ln.of HB2.out hB⟩
theorem keys_take(xs:List (Int×Int)){i:Nat}(h:i < xs.length):keys (xs.take (i+1))=keys (xs.take i) ++ [(xs.getD i (0,0)).1]:=by
 rw [List.take_succ_eq_append_getElem h,getD_at h]
 unfold keys
 rw [List.map_append]
 rfl
theorem qlist_own{B:Nat->Prop}{w:World}{p:Nat}{xs:List (Int×Int)}(h:Qu B w p xs) :
  Calls Tryz.prog 55 #[.pointer (some ⟨p,0,none⟩)] w fun e w'=>∃ v,e=.returned v/\w'.ownsRow w.heap.size 3 1 v xs.length ((keys xs).map (Value.int .i64))/\Below w.heap.size w w':=by
 obtain⟨i0,hi,hz0,hz1,hz2⟩:=info_parts' infoW
 obtain⟨bs,h⟩:=h
 have HQ:Hid (Que B w p bs xs):=h
 have HT:=there_yes h
 have hlen:=h.len
 have c0:=h.start
 have d2:=(h.cells (i:=0) (by omega)).2.2
 have HK:Hid (keys (xs.take xs.length)=keys xs):=by show _=_;rw [List.take_length]
 have HS:Hid (∀ i,i < xs.length->keys (xs.take (i+1))=keys (xs.take i) ++ [(xs.getD i (0,0)).1]):=fun i hi=>keys_take xs hi
 have hbl:=h.blen
 clear h
 obtain⟨n,hn⟩:∃ n,xs.length=n:=⟨_,rfl⟩
 have HN:Hid (xs.length=n):=hn
 rw [hn] at hlen HK HS hbl
 rw [hn]
 clear hn
 generalize bat bs 0=b0 at *
 go_enter Tryz.func55,Tryz.ntmps55
 go_wp2_with (first |(go_at_call 98;refine HT.mono ?_;rintro e wx ⟨rfl,rfl⟩))
 go_loopg [3,4] n (fun gk s3 s4 wx=>∃ i:Nat,i+gk=n/\s4=.pointer (nxt bs i)/\Hid (wx.ownsRow w.heap.size 3 1 s3 i ((keys (xs.take i)).map (Value.int .i64)))/\Hid (Below w.heap.size w wx))
 case atStart=>exact⟨0,by omega,rfl,World.ownsRow_nil _ _ _ _,Below.refl _ _⟩
 case round =>
  clear c0 d2 HT
  obtain⟨i,hig,hs4,HO,HB⟩:=hrel
  cases gk with
  | zero =>
   obtain rfl:i=n:=by omega
   rw [nxt_none (by omega)] at hs4
   subst hs4
   rw [HK.out] at HO
   go_wp2
   go_ret
   exact⟨_,rfl,HO.out,HB.out⟩
  | succ g' =>
   rw [nxt_some (by omega)] at hs4
   subst hs4
   have hx:i < n:=by omega
   have hq:=HQ.out.below HB.out
   obtain⟨e0,_,_⟩:=hq.cells (i:=i+1) (by have:=HN.out;omega)
   obtain⟨_,_,e2⟩:=HQ.out.cells (i:=i+1) (by have:=HN.out;omega)
   rw [yat_succ] at e0
   have HE2:Hid (w.cell? ⟨bat bs (i+1),2,none⟩=some (.pointer (nxt bs (i+1)))):=e2
   have HS1:Hid (keys (xs.take (i+1))=keys (xs.take i) ++ [(xs.getD i (0,0)).1]):=HS.out i hx
   have hlt:=(HQ.out.lt (i:=i+1) (by have:=HN.out;omega)).1
   clear hq e2
   generalize (xs.getD i (0,0)).1=y at *
   generalize keys (xs.take i)=ks at *
   generalize bat bs (i+1)=b2 at *
   go_wp2_with (first
    |(at_builtin;refine wpList_append_own _ rfl _ _ 111 rfl w.heap.size 3 i0 (.int .i64 0) 1 8 Tryz.underlying111 hi hz0 hz1 hz2 rfl (by decide) _ _ _ rfl (HO.out.alloc _) ⟨wr.heap.size,0,none⟩ 1 1 [.int .i64 y] rfl rfl (cell1 wr _ _) (by simp [Value.oneCell']) (by simp only [maxLen];omega) (by omega) (by have:=HB.out.size;rw [alloc_size];omega) ?_;intro v' w1 hown' hgrow _;have HG:Hid ((wr.alloc (.cells #[.int .i64 y] 3)).grownBy w1 u3.ownBlock):=hgrow;have HO3:Hid (w1.ownsRow w.heap.size 3 1 v' (i+1) (ks.map (Value.int .i64) ++ [.int .i64 y])):=hown';have HB3:Hid (Below w.heap.size w w1):=(HB.out.trans (((alloc_below wr _).mono HB.out.size).trans ((Buts.grown HG.out).below (fun x hx=>(HO.out.lt x (by simpa using hx)).1) (by have:=HB.out.size;rw [alloc_size];omega))));have k2:w1.cell? ⟨b2,2,none⟩=some (.pointer (nxt bs (i+1))):=(HB3.out.cell (p:=⟨b2,2,none⟩) hlt).trans HE2.out;clear hown' hgrow))
   go_roundg g'
   case measure=>omega
   case rel =>
    refine⟨i+1,by omega,rfl,?_,HB3⟩
    rw [HS1.out,List.map_append]
    exact HO3
theorem qlist_any{B:Nat->Prop}{w:World}{p:Nat}{xs:List (Int×Int)}(h:Qu B w p xs){n:Nat}(hn:xs.length=n){zs:List Int}(hz:keys xs=zs) :
  Calls Tryz.prog 55 #[.pointer (some ⟨p,0,none⟩)] w fun e w'=>∃ sp cap,e=.returned (.slice sp n cap)/\w'.ownsRow w.heap.size 3 1 (.slice sp n cap) n (zs.map (Value.int .i64))/\Src w' sp zs/\Below w.heap.size w w':=by
 subst hn hz
 refine(qlist_own h).mono ?_
 rintro e w' ⟨v,rfl,ho,hb⟩
 have ho':=ho
 rw [←keys_len] at ho'
 obtain⟨sp,cap,rfl,hs⟩:=Src.own ho'
 rw [keys_len] at ho' ⊢
 exact⟨sp,cap,rfl,ho',hs,hb⟩
end Go.Proofs.YtbbdndfibjdcfaaGreat.Wt
