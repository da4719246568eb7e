/- Package kernel, proved: part KtTm3. No law of the program itself. -/
import Derived.Maps.OwnSet
import Derived.Maps.OwnOps
import Derived.Test.YtbbdndfibjdcfaaGreatKtTm2
import Derived.Test.YtbbdndfibjdcfaaGreatKtA1
set_option maxRecDepth 100000
set_option linter.all false
set_option maxHeartbeats 16000000
namespace Go.Proofs.YtbbdndfibjdcfaaGreat.Tm
open Go Go.RowKit
def has(ys:List (Int×Int))(who:Int):Bool:=ys.any (fun y=>decide (y.1=who))
theorem has_yes{ys:List (Int×Int)}{who:Int}:has ys who=true↔∃ y∈ys,y.1=who:=by simp [has]
theorem has_no{ys:List (Int×Int)}{who:Int}:has ys who=false↔∀ y∈ys,y.1≠who:=by simp [has]
def badArg(who t:Int):Prop:=who < 0∨t < 1∨1073741824 < t
instance (who t:Int):Decidable (badArg who t):=inferInstanceAs (Decidable (who < 0∨t < 1∨1073741824 < t))
def putE(ys:List (Int×Int))(who t:Int):Int:=if badArg who t then 1 else if has ys who then 7 else 0
def putL(ys:List (Int×Int))(who t:Int):List (Int×Int):=if badArg who t then ys else if has ys who then ys else ys ++ [(who,t)]
def remE(ys:List (Int×Int))(who:Int):Int:=if has ys who then 0 else 1
def leftV(ys:List (Int×Int))(who:Int):Int:=((ys.find? (fun y=>decide (y.1=who))).map Prod.snd).getD 0
theorem leftV_at{ys:List (Int×Int)}(hk:Keys ys){y:Int×Int}(h:y∈ys):leftV ys y.1=y.2:=by
 unfold leftV
 cases hf:ys.find? (fun z=>decide (z.1=y.1)) with
 | none=>have:=List.find?_eq_none.1 hf y h;simp at this
 | some z =>
  have h1:=List.find?_some hf
  have h2:=List.mem_of_find?_eq_some hf
  rw [keys_eq hk h2 h (by simpa using h1)]
  rfl
theorem leftV_no{ys:List (Int×Int)}{who:Int}(h:has ys who=false):leftV ys who=0:=by
 unfold leftV
 rw [List.find?_eq_none.2 (fun y hy=>by simpa using has_no.1 h y hy)]
 rfl
theorem gone_no{ys:List (Int×Int)}{who:Int}(h:has ys who=false):gone ys who=ys:=by
 unfold gone
 rw [List.filter_eq_self]
 intro y hy
 simpa using has_no.1 h y hy
structure Lst (B:Nat) (w:World) (p:Nat) (v:Value) (ys:List (Int×Int)):Prop where
 ch:Ch B w p v (dl 0 (srt ys))
 good:Good ys
theorem Lst.buts{B:Nat}{w w':World}{p:Nat}{v:Value}{ys:List (Int×Int)}{l:List Nat}(h:Lst B w p v ys)(hb:Buts l w w')(hp:p ∉ l)(hl:∀ g,v.ownBlock=some g->g ∉ l):Lst B w' p v ys:=⟨h.ch.buts hb hp hl,h.good⟩
theorem Lst.below{B:Nat}{w w':World}{p:Nat}{v:Value}{ys:List (Int×Int)}(h:Lst B w p v ys)(hb:Below w.heap.size w w'):Lst B w' p v ys:=⟨h.ch.below hb,h.good⟩
theorem Lst.len{B:Nat}{w:World}{p:Nat}{v:Value}{ys:List (Int×Int)}(h:Lst B w p v ys):ys.length<=1000:=by have:=h.ch.len;rw [dl_len,srt_len] at this;exact this
theorem Lst.bnd{B:Nat}{w:World}{p:Nat}{v:Value}{ys:List (Int×Int)}(h:Lst B w p v ys):Bnd (srt ys):=fun x hx=>⟨by have:=h.good.sorted.lo x hx;omega,h.good.sorted.hi x hx⟩
def Nt(B:Nat)(w w':World)(p:Nat)(v:Value)(ys:List (Int×Int)):Prop:=∃ v',Lst B w' p v' ys/\Buts (p :: v.ownBlock.toList) w w'/\∀ g,v'.ownBlock=some g->v.ownBlock=some g∨w.heap.size<=g
theorem Lst.next{B:Nat}{w w':World}{p:Nat}{v:Value}{ys:List (Int×Int)}(h:Lst B w p v ys)(hb:Below w.heap.size w w'):Nt B w w' p v ys:=⟨v,h.below hb,Buts.of hb,fun g hg=>Or.inl hg⟩
theorem new_any(w:World)(B:Nat)(hB:B<=w.heap.size):Calls Tryz.prog 30 #[] w fun e w'=>e=.returned (.pointer (some ⟨w.heap.size,0,none⟩))/\Lst B w' w.heap.size (.slice none 0 0) []/\Below w.heap.size w w':=by
 go_enter Tryz.func30,Tryz.ntmps30
 go_wp2
 go_ret
 exact⟨rfl,⟨⟨alloc_at w _,World.ownsRow_nil _ _ _ _,by simp [dl,srt],hB⟩,Good.nil⟩,alloc_below w _⟩
theorem there_yes{B:Nat}{w:World}{p:Nat}{v:Value}{ds:List (Int×Int)}(h:Ch B w p v ds):Calls Tryz.prog 84 #[.pointer (some ⟨p,0,none⟩)] w fun e w'=>e=.returned (.bool true)/\w=w':=by
 have c0:=h.made
 clear h
 go_enter Tryz.func84,Tryz.ntmps84
 go_wp2
 go_ret
 exact⟨rfl,rfl⟩
theorem cfind_yes{B:Nat}{w:World}{p:Nat}{v:Value}{ys:List (Int×Int)}(h:Lst B w p v ys){who:Int}(hh:has ys who=true) :
  Calls Tryz.prog 179 #[.pointer (some ⟨p,1,none⟩),.int .i64 who] w fun e w'=>(∃ k:Nat,k < ys.length/\((srt ys).getD k (0,0)).1=who/\e=.returned (.tuple #[.int .i64 (k:Int),.int .i64 (leftV ys who),.bool true]))/\Below w.heap.size w w':=by
 refine(find_any h.ch h.bnd (by rw [srt_len];exact h.len) who).mono ?_
 rintro e w' ⟨hx,hb⟩
 refine⟨?_,hb⟩
 rcases hx with⟨k,hk,hw,rfl⟩ |⟨hn,_⟩
 ·refine⟨k,by rw [←srt_len];exact hk,hw,?_⟩
  rw [lf_succ hk,←hw,leftV_at h.good.keys (srt_mem.1 (getD_mem hk))]
 ·obtain⟨y,hy,e⟩:=has_yes.1 hh
  obtain⟨i,hi,e2⟩:=List.getElem_of_mem (srt_mem.2 hy)
  exact absurd (by rw [List.getD_eq_getElem?_getD,List.getElem?_eq_getElem hi,Option.getD_some,e2];exact e) (hn i hi)
theorem cfind_no{B:Nat}{w:World}{p:Nat}{v:Value}{ys:List (Int×Int)}(h:Lst B w p v ys){who:Int}(hh:has ys who=false) :
  Calls Tryz.prog 179 #[.pointer (some ⟨p,1,none⟩),.int .i64 who] w fun e w'=>e=.returned (.tuple #[.int .i64 0,.int .i64 0,.bool false])/\Below w.heap.size w w':=by
 refine(find_any h.ch h.bnd (by rw [srt_len];exact h.len) who).mono ?_
 rintro e w' ⟨hx,hb⟩
 refine⟨?_,hb⟩
 rcases hx with⟨k,hk,hw,rfl⟩ |⟨hn,rfl⟩
 ·exact absurd hw (has_no.1 hh _ (srt_mem.1 (getD_mem hk)))
 ·rfl
theorem lfind_yes{B:Nat}{w:World}{p:Nat}{v:Value}{ys:List (Int×Int)}(h:Lst B w p v ys){who:Int}(hh:has ys who=true) :
  Calls Tryz.prog 139 #[.pointer (some ⟨p,0,none⟩),.int .i64 who] w fun e w'=>∃ k:Nat,k < ys.length/\((srt ys).getD k (0,0)).1=who/\e=.returned (.tuple #[.int .i64 (k:Int),.int .i64 (leftV ys who),.int .i64 0])/\Below w.heap.size w w':=by
 have HL:Hid (Lst B w p v ys):=h
 have HH:Hid (has ys who=true):=hh
 generalize hz:leftV ys who=z
 have HZ:Hid (leftV ys who=z):=hz
 clear h hh hz
 go_enter Tryz.func139,Tryz.ntmps139
 go_wp2_with (first
  |(go_at_call 84;refine(there_yes HL.out.ch).mono ?_;rintro e w' ⟨rfl,rfl⟩)
  |(go_at_call 179;refine(cfind_yes HL.out HH.out).mono ?_;rw [HZ.out];rintro e w1 ⟨⟨k,hk,hw,rfl⟩,hb⟩;have HK:Hid (k < ys.length/\((srt ys).getD k (0,0)).1=who):=⟨hk,hw⟩;have HB:Hid (Below w.heap.size w w1):=hb;clear hk hw hb))
 refine bodyPost_ret (results_tmp3 rfl _ _ _) rfl ?_
 exact⟨k,HK.out.1,HK.out.2,rfl,HB.out⟩
theorem lfind_no{B:Nat}{w:World}{p:Nat}{v:Value}{ys:List (Int×Int)}(h:Lst B w p v ys){who:Int}(hh:has ys who=false) :
  Calls Tryz.prog 139 #[.pointer (some ⟨p,0,none⟩),.int .i64 who] w fun e w'=>e=.returned (.tuple #[.int .i64 0,.int .i64 0,.int .i64 1])/\Below w.heap.size w w':=by
 have HL:Hid (Lst B w p v ys):=h
 have HH:Hid (has ys who=false):=hh
 clear h hh
 go_enter Tryz.func139,Tryz.ntmps139
 go_wp2_with (first
  |(go_at_call 84;refine(there_yes HL.out.ch).mono ?_;rintro e w' ⟨rfl,rfl⟩)
  |(go_at_call 179;refine(cfind_no HL.out HH.out).mono ?_;rintro e w1 ⟨rfl,hb⟩;have HB:Hid (Below w.heap.size w w1):=hb;clear hb))
 refine bodyPost_ret (results_tmp3 rfl _ _ _) rfl ?_
 exact⟨rfl,HB.out⟩
theorem left_is{B:Nat}{w:World}{p:Nat}{v:Value}{ys:List (Int×Int)}(h:Lst B w p v ys)(who:Int) :
  Calls Tryz.prog 127 #[.pointer (some ⟨p,0,none⟩),.int .i64 who] w fun e w'=>e=.returned (.tuple #[.int .i64 (leftV ys who),.int .i64 (remE ys who)])/\Below w.heap.size w w':=by
 have HL:Hid (Lst B w p v ys):=h
 by_cases hh:has ys who=true
 ·have e:remE ys who=0:=by simp [remE,hh]
  have HH:Hid (has ys who=true):=hh
  rw [e]
  generalize hz:leftV ys who=z
  have HZ:Hid (leftV ys who=z):=hz
  clear h hh hz e
  go_enter Tryz.func127,Tryz.ntmps127
  go_wp2_with (go_at_call 139;refine(lfind_yes HL.out HH.out).mono ?_;rw [HZ.out];rintro e w1 ⟨k,hk,hw,rfl,hb⟩;have HB:Hid (Below w.heap.size w w1):=hb;clear hk hw hb)
  go_ret2
  exact⟨rfl,HB.out⟩
 ·have hh':has ys who=false:=by simpa using hh
  have e:remE ys who=1:=by simp [remE,hh']
  have HH:Hid (has ys who=false):=hh'
  rw [e,leftV_no hh']
  clear h hh hh' e
  go_enter Tryz.func127,Tryz.ntmps127
  go_wp2_with (go_at_call 139;refine(lfind_no HL.out HH.out).mono ?_;rintro e w1 ⟨rfl,hb⟩;have HB:Hid (Below w.heap.size w w1):=hb;clear hb)
  go_ret2
  exact⟨rfl,HB.out⟩
theorem remove_is{B:Nat}{w:World}{p:Nat}{v:Value}{ys:List (Int×Int)}(h:Lst B w p v ys)(who:Int) :
  Calls Tryz.prog 96 #[.pointer (some ⟨p,0,none⟩),.int .i64 who] w fun e w'=>e=.returned (.int .i64 (remE ys who))/\Nt B w w' p v (gone ys who):=by
 have HL:Hid (Lst B w p v ys):=h
 by_cases hh:has ys who=true
 ·have e:remE ys who=0:=by simp [remE,hh]
  have HH:Hid (has ys who=true):=hh
  rw [e]
  clear h hh e
  have HR:Hid (∀ (k:Nat) (w1:World),k < ys.length->((srt ys).getD k (0,0)).1=who->Below w.heap.size w w1->Calls Tryz.prog 140 #[.pointer (some ⟨p,1,none⟩),.int .i64 (k:Int)] w1 fun e w'=>e=.returned (.tuple #[])/\Nt B w w' p v (gone ys who)):=fun k w1 hk hw hb=>by
   have h1:=HL.out.below hb
   refine(removeAt_any h1.ch h1.bnd k (by rw [srt_len];exact hk)).mono ?_
   rintro e w' ⟨rfl,v',hc,hbb,hv⟩
   rw [erase_gone HL.out.good.sorted.keys (by rw [srt_len];exact hk) hw,←srt_gone] at hc
   refine⟨rfl,v',⟨hc,HL.out.good.gone who⟩,(Buts.of hb).trans hbb,fun g hg=>(hv g hg).imp id (fun h=>by have:=hb.size;omega)⟩
  go_enter Tryz.func96,Tryz.ntmps96
  go_wp2_with (first
   |(go_at_call 139;refine(lfind_yes HL.out HH.out).mono ?_;rintro e w1 ⟨k,hk,hw,rfl,hb⟩;have HK:=HR.out k w1 hk hw hb;have HC:Hid (Calls Tryz.prog 140 #[.pointer (some ⟨p,1,none⟩),.int .i64 (k:Int)] w1 fun e w'=>e=.returned (.tuple #[])/\Nt B w w' p v (gone ys who)):=HK;clear hk hw hb HK)
   |(go_at_call 140;refine HC.out.mono ?_;rintro e w2 ⟨rfl,hn⟩;have HN:Hid (Nt B w w2 p v (gone ys who)):=hn;clear hn))
  go_ret
  exact⟨rfl,HN.out⟩
 ·have hh':has ys who=false:=by simpa using hh
  have e:remE ys who=1:=by simp [remE,hh']
  have HH:Hid (has ys who=false):=hh'
  rw [e,gone_no hh']
  clear h hh hh' e
  go_enter Tryz.func96,Tryz.ntmps96
  go_wp2_with (go_at_call 139;refine(lfind_no HL.out HH.out).mono ?_;rintro e w1 ⟨rfl,hb⟩;have HB:Hid (Below w.heap.size w w1):=hb;clear hb)
  go_ret
  exact⟨rfl,HL.out.next HB.out⟩
theorem may_is{B:Nat}{w:World}{p:Nat}{v:Value}{ys:List (Int×Int)}(h:Lst B w p v ys)(who t:Int) :
  Calls Tryz.prog 171 #[.pointer (some ⟨p,0,none⟩),.int .i64 who,.int .i64 t] w fun e w'=>e=.returned (.int .i64 (putE ys who t))/\Below w.heap.size w w':=by
 have HL:Hid (Lst B w p v ys):=h
 have HB0:Hid (Below w.heap.size w w):=Below.refl _ _
 by_cases hb:badArg who t
 ·have e:putE ys who t=1:=by simp [putE,hb]
  rw [e]
  clear h e
  by_cases h1:who < 0
  ·clear hb
   go_enter Tryz.func171,Tryz.ntmps171
   go_wp2_with (go_at_call 84;refine(there_yes HL.out.ch).mono ?_;rintro e w' ⟨rfl,rfl⟩)
   go_ret
   exact⟨rfl,HB0.out⟩
  ·by_cases h2:t < 1
   ·clear hb
    go_enter Tryz.func171,Tryz.ntmps171
    go_wp2_with (go_at_call 84;refine(there_yes HL.out.ch).mono ?_;rintro e w' ⟨rfl,rfl⟩)
    go_ret
    exact⟨rfl,HB0.out⟩
   ·have h3:1073741824 < t:=by unfold badArg at hb;omega
    clear hb
    go_enter Tryz.func171,Tryz.ntmps171
    go_wp2_with (go_at_call 84;refine(there_yes HL.out.ch).mono ?_;rintro e w' ⟨rfl,rfl⟩)
    go_ret
    exact⟨rfl,HB0.out⟩
 ·have a1:¬ who < 0:=fun h=>hb (Or.inl h)
  have a2:¬ t < 1:=fun h=>hb (Or.inr (Or.inl h))
  have a3:¬ 1073741824 < t:=fun h=>hb (Or.inr (Or.inr h))
  by_cases hh:has ys who=true
  ·have e:putE ys who t=7:=by simp [putE,hb,hh]
   have HH:Hid (has ys who=true):=hh
   rw [e]
   clear h e hb hh
   go_enter Tryz.func171,Tryz.ntmps171
   go_wp2_with (first
    |(go_at_call 84;refine(there_yes HL.out.ch).mono ?_;rintro e w' ⟨rfl,rfl⟩)
    |(go_at_call 179;refine(cfind_yes HL.out HH.out).mono ?_;rintro e w1 ⟨⟨k,hk,hw,rfl⟩,hb⟩;have HB:Hid (Below w.heap.size w w1):=hb;clear hk hw hb))
   go_ret
   exact⟨rfl,HB.out⟩
  ·have hh':has ys who=false:=by simpa using hh
   have e:putE ys who t=0:=by simp [putE,hb,hh']
   have HH:Hid (has ys who=false):=hh'
   rw [e]
   clear h e hb hh hh'
   go_enter Tryz.func171,Tryz.ntmps171
   go_wp2_with (first
    |(go_at_call 84;refine(there_yes HL.out.ch).mono ?_;rintro e w' ⟨rfl,rfl⟩)
    |(go_at_call 179;refine(cfind_no HL.out HH.out).mono ?_;rintro e w1 ⟨rfl,hb⟩;have HB:Hid (Below w.heap.size w w1):=hb;clear hb))
   go_ret
   exact⟨rfl,HB.out⟩
theorem put_is{B:Nat}{w:World}{p:Nat}{v:Value}{ys:List (Int×Int)}(h:Lst B w p v ys)(who t:Int)(hl:ys.length < 1000)(hB:B<=w.heap.size) :
  Calls Tryz.prog 131 #[.pointer (some ⟨p,0,none⟩),.int .i64 who,.int .i64 t] w fun e w'=>e=.returned (.int .i64 (putE ys who t))/\Nt B w w' p v (putL ys who t):=by
 have HL:Hid (Lst B w p v ys):=h
 by_cases hz:putE ys who t=0
 ·have hb:¬ badArg who t:=fun hb=>by simp [putE,hb] at hz
  have hh:has ys who=false:=by
   cases hc:has ys who with
   | false=>rfl
   | true=>simp [putE,hb,hc] at hz
  have e2:putL ys who t=ys ++ [(who,t)]:=by simp [putL,hb,hh]
  have HM:Hid (Calls Tryz.prog 171 #[.pointer (some ⟨p,0,none⟩),.int .i64 who,.int .i64 t] w fun e w'=>e=.returned (.int .i64 0)/\Below w.heap.size w w'):=by
   have:=may_is h who t
   rw [hz] at this
   exact this
  have a1:0<=who:=by unfold badArg at hb;omega
  have a2:1<=t:=by unfold badArg at hb;omega
  have a3:t<=1073741824:=by unfold badArg at hb;omega
  have HG:Hid (Good (ys ++ [(who,t)])):=h.good.put a1 a2 a3 (has_no.1 hh)
  have HA:Hid (∀ w1,Below w.heap.size w w1->Calls Tryz.prog 172 #[.pointer (some ⟨p,1,none⟩),.int .i64 who,.int .i64 t] w1 fun e w'=>e=.returned (.tuple #[])/\Nt B w w' p v (ys ++ [(who,t)])):=fun w1 hbw=>by
   have h1:=HL.out.below hbw
   refine(add_any h1.ch h1.bnd (by rw [srt_len];exact hl) who t (by omega) a3 (by have:=hbw.size;omega)).mono ?_
   rintro e w' ⟨rfl,v',hc,hbb,hv⟩
   rw [←srt_snoc] at hc
   exact⟨rfl,v',⟨hc,HG.out⟩,(Buts.of hbw).trans hbb,fun g hg=>(hv g hg).imp id (fun h=>by have:=hbw.size;omega)⟩
  rw [hz,e2]
  clear h hb hh e2 hz a1 a2 a3
  go_enter Tryz.func131,Tryz.ntmps131
  go_wp2_with (first
   |(go_at_call 171;refine HM.out.mono ?_;rintro e w1 ⟨rfl,hb⟩;have HC:=HA.out w1 hb;have HC':Hid (Calls Tryz.prog 172 #[.pointer (some ⟨p,1,none⟩),.int .i64 who,.int .i64 t] w1 fun e w'=>e=.returned (.tuple #[])/\Nt B w w' p v (ys ++ [(who,t)])):=HC;clear hb HC)
   |(go_at_call 172;refine HC'.out.mono ?_;rintro e w2 ⟨rfl,hn⟩;have HN:Hid (Nt B w w2 p v (ys ++ [(who,t)])):=hn;clear hn))
  go_ret
  exact⟨rfl,HN.out⟩
 ·have e2:putL ys who t=ys:=by
   unfold putE at hz
   unfold putL
   split
   ·rfl
   ·rename_i hb
    rw [if_neg hb] at hz
    split
    ·rfl
    ·rename_i hc
     rw [if_neg hc] at hz
     exact absurd rfl hz
  have HM:Hid (Calls Tryz.prog 171 #[.pointer (some ⟨p,0,none⟩),.int .i64 who,.int .i64 t] w fun e w'=>e=.returned (.int .i64 (putE ys who t))/\Below w.heap.size w w'):=may_is h who t
  rw [e2]
  generalize putE ys who t=z at *
  clear h e2
  go_enter Tryz.func131,Tryz.ntmps131
  go_wp2_with (go_at_call 171;refine HM.out.mono ?_;rintro e w1 ⟨rfl,hb⟩;have HB:Hid (Below w.heap.size w w1):=hb;clear hb)
  go_ret
  exact⟨rfl,HL.out.next HB.out⟩
theorem tick_is{B:Nat}{w:World}{p:Nat}{v:Value}{ys:List (Int×Int)}(h:Lst B w p v ys)(hB:B<=w.heap.size) :
  Calls Tryz.prog 45 #[.pointer (some ⟨p,0,none⟩)] w fun e w'=>∃ u,e=.returned u/\w'.ownsRow w.heap.size 3 1 u (woke ys).length (num (woke ys))/\(u=.slice none 0 0↔woke ys=[])/\Nt B w w' p v (rest ys):=by
 have HL:Hid (Lst B w p v ys):=h
 have HT:Hid (Calls Tryz.prog 85 #[.pointer (some ⟨p,1,none⟩)] w fun e w'=>∃ us n uc,e=.returned (.slice us n uc)/\w'.ownsRow w.heap.size 3 1 (.slice us n uc) (woke ys).length (num (woke ys))/\(Value.slice us n uc=.slice none 0 0↔woke ys=[])/\Nt B w w' p v (rest ys)):=by
  refine(tick_any h.ch (srt_up ys) (fun x hx=>h.good.sorted.lo x hx) (fun x hx=>h.good.sorted.hi x hx) hB).mono ?_
  rintro e w' ⟨u,rfl,hr,hn,v',hc,hb,hv⟩
  rw [srt_woke] at hr hn
  rw [←srt_rest] at hc
  obtain⟨us,uc,e,_⟩:=own_form hr
  subst e
  exact⟨us,_,uc,rfl,hr,hn,v',⟨hc,h.good.rest⟩,hb,hv⟩
 clear h
 go_enter Tryz.func45,Tryz.ntmps45
 go_wp2_with (first
  |(go_at_call 84;refine(there_yes HL.out.ch).mono ?_;rintro e w' ⟨rfl,rfl⟩)
  |(go_at_call 85;refine HT.out.mono ?_;rintro e w1 ⟨us,n,uc,rfl,hr,hn,hx⟩;have HR:Hid (w1.ownsRow w.heap.size 3 1 (.slice us n uc) (woke ys).length (num (woke ys))/\(Value.slice us n uc=.slice none 0 0↔woke ys=[])/\Nt B w w1 p v (rest ys)):=⟨hr,hn,hx⟩;clear hr hn hx))
 go_ret
 exact⟨_,rfl,HR.out⟩
abbrev Alm:=Int×Int×Int
def wl(z:Alm):Int×Int:=(z.1,z.2.1)
def we(z:Alm):Int×Int:=(z.1,z.2.2)
def two(zs:List Alm):List (Int×Int):=zs.map wl
def pr(zs:List Alm):List (Int×Int):=zs.map we
def off(zs:List Alm)(who:Int):List Alm:=zs.filter (fun z=>decide (z.1≠who))
def due(zs:List Alm):List Alm:=zs.filter (fun z=>decide (z.2.1=1))
def nxt(z:Alm):Alm:=(z.1,z.2.1 - 1,z.2.2)
def ag(z:Alm):Alm:=(z.1,z.2.2,z.2.2)
def stay(zs:List Alm):List Alm:=(zs.filter (fun z=>decide (z.2.1≠1))).map nxt
def agn(ds:List Alm):List Alm:=(ds.filter (fun z=>decide (0 < z.2.2))).map ag
def tickL(zs:List Alm):List Alm:=stay zs ++ agn (due zs)
def badT(i e:Int):Prop:=i < 1∨1073741824 < i∨e < 0∨1073741824 < e
instance (i e:Int):Decidable (badT i e):=inferInstanceAs (Decidable (i < 1∨1073741824 < i∨e < 0∨1073741824 < e))
def startE(who i e:Int):Int:=if who < 0 then 1 else if badT i e then 4 else 0
def startL(zs:List Alm)(who i e:Int):List Alm:=if startE who i e=0 then off zs who ++ [(who,i,e)] else zs
def stopE(zs:List Alm)(who:Int):Int:=if has (two zs) who then 0 else 7
theorem two_len(zs:List Alm):(two zs).length=zs.length:=by simp [two]
theorem two_app(xs ys:List Alm):two (xs ++ ys)=two xs ++ two ys:=by simp [two]
theorem pr_app(xs ys:List Alm):pr (xs ++ ys)=pr xs ++ pr ys:=by simp [pr]
theorem two_off(zs:List Alm)(who:Int):two (off zs who)=gone (two zs) who:=by
 unfold two off gone
 rw [List.filter_map]
 rfl
theorem two_rest(zs:List Alm):two (stay zs)=rest (two zs):=by
 unfold two stay rest
 rw [List.filter_map,List.map_map,List.map_map]
 rfl
theorem two_woke(zs:List Alm):woke (two zs)=(due zs).map Prod.fst:=by
 unfold two due woke
 rw [List.filter_map,List.map_map]
 rfl
theorem has_two{zs:List Alm}{who:Int}:has (two zs) who=true↔∃ z∈zs,z.1=who:=by
 rw [has_yes]
 constructor
 ·rintro ⟨y,hy,e⟩
  obtain⟨z,hz,rfl⟩:=List.mem_map.1 hy
  exact⟨z,hz,e⟩
 ·rintro ⟨z,hz,e⟩
  exact⟨_,List.mem_map.2 ⟨z,hz,rfl⟩,e⟩
theorem off_not{zs:List Alm}{who:Int}(h:has (two zs) who=false):off zs who=zs:=by
 unfold off
 rw [List.filter_eq_self]
 intro z hz
 have:¬ z.1=who:=fun e=>by
  have:=has_two.2 ⟨z,hz,e⟩
  rw [h] at this
  cases this
 simpa using this
theorem has_off(zs:List Alm)(who:Int):has (two (off zs who)) who=false:=by
 cases h:has (two (off zs who)) who with
 | false=>rfl
 | true =>
  obtain⟨z,hz,e⟩:=has_two.1 h
  have:=(List.mem_filter.1 hz).2
  simp at this
  exact absurd e this
theorem off_len(zs:List Alm)(who:Int):(off zs who).length<=zs.length:=List.length_filter_le _ _
def Ids(zs:List Alm):Prop:=(zs.map Prod.fst).Nodup
theorem Ids.keys{zs:List Alm}:Keys (two zs)↔Ids zs:=by
 unfold Keys Ids two
 rw [List.map_map]
 exact Iff.rfl
structure Fine (zs:List Alm):Prop where
 good:Good (two zs)
 each:∀ z∈zs,0<=z.2.2/\z.2.2<=1073741824
 top:∀ z∈zs,z.1 < 9223372036854775808
theorem Fine.nil:Fine []:=⟨Good.nil,by simp,by simp⟩
theorem Fine.ids{zs:List Alm}(h:Fine zs):Ids zs:=Ids.keys.1 h.good.keys
theorem Fine.lo{zs:List Alm}(h:Fine zs){z:Alm}(hz:z∈zs):1<=z.2.1:=h.good.lo _ (List.mem_map.2 ⟨z,hz,rfl⟩)
theorem Fine.hi{zs:List Alm}(h:Fine zs){z:Alm}(hz:z∈zs):z.2.1<=1073741824:=h.good.hi _ (List.mem_map.2 ⟨z,hz,rfl⟩)
theorem Fine.who{zs:List Alm}(h:Fine zs){z:Alm}(hz:z∈zs):0<=z.1:=h.good.who _ (List.mem_map.2 ⟨z,hz,rfl⟩)
theorem Fine.of{zs:List Alm}(hi:Ids zs)(h:∀ z∈zs,0<=z.1/\z.1 < 9223372036854775808/\1<=z.2.1/\z.2.1<=1073741824/\0<=z.2.2/\z.2.2<=1073741824):Fine zs:=by
 refine⟨⟨Ids.keys.2 hi,?_,?_,?_⟩,fun z hz=>⟨(h z hz).2.2.2.2.1,(h z hz).2.2.2.2.2⟩,fun z hz=>(h z hz).2.1⟩
 all_goals
  intro y hy
  obtain⟨z,hz,rfl⟩:=List.mem_map.1 hy
  have:=h z hz
  simp only [wl]
  omega
theorem Fine.all{zs:List Alm}(h:Fine zs){z:Alm}(hz:z∈zs):0<=z.1/\z.1 < 9223372036854775808/\1<=z.2.1/\z.2.1<=1073741824/\0<=z.2.2/\z.2.2<=1073741824 :=
 ⟨h.who hz,h.top z hz,h.lo hz,h.hi hz,h.each z hz⟩
theorem Ids.filter{zs:List Alm}(h:Ids zs)(p:Alm->Bool):Ids (zs.filter p):=by
 unfold Ids at h ⊢
 exact h.sublist (List.Sublist.map _ List.filter_sublist)
theorem Fine.filter{zs:List Alm}(h:Fine zs)(p:Alm->Bool):Fine (zs.filter p):=Fine.of (h.ids.filter p) fun z hz=>h.all (List.mem_filter.1 hz).1
theorem Fine.off{zs:List Alm}(h:Fine zs)(who:Int):Fine (off zs who):=h.filter _
theorem Fine.start{zs:List Alm}(h:Fine zs){who i e:Int}(hb:who < 9223372036854775808):Fine (startL zs who i e):=by
 unfold startL
 split
 ·rename_i hs
  have h0:¬ who < 0:=fun c=>by simp [startE,c] at hs
  have h1:¬ badT i e:=fun c=>by simp [startE,h0,c] at hs
  have ho:=h.off who
  refine Fine.of ?_ fun z hz=>?_
  ·unfold Ids
   rw [List.map_append,List.nodup_append]
   refine⟨ho.ids,by simp,fun a ha b hb'=>?_⟩
   obtain⟨z,hz,rfl⟩:=List.mem_map.1 ha
   have:b=who:=by simpa using hb'
   subst this
   have:=(List.mem_filter.1 hz).2
   simpa using this
  ·rcases List.mem_append.1 hz with hz | hz
   ·exact ho.all hz
   ·obtain rfl:z=(who,i,e):=by simpa using hz
    unfold badT at h1
    simp only
    omega
 ·exact h
def mid(zs:List Alm)(i:Nat):List Alm:=stay zs ++ agn ((due zs).take i)
theorem mid_zero(zs:List Alm):mid zs 0=stay zs:=by simp [mid,agn]
theorem mid_all(zs:List Alm):mid zs (due zs).length=tickL zs:=by simp [mid,tickL]
theorem mid_succ(zs:List Alm)(i:Nat)(q:Alm)(h:(due zs)[i]?=some q):mid zs (i+1)=mid zs i ++ (if 0 < q.2.2 then [ag q] else []):=by
 obtain⟨hi,e⟩:=List.getElem?_eq_some_iff.1 h
 unfold mid agn
 rw [←List.take_append_getElem hi,List.filter_append,List.map_append,List.append_assoc,e]
 by_cases c:0 < q.2.2 <;> simp [c]
theorem pr_next(zs:List Alm):pr (zs.map nxt)=pr zs:=by unfold pr;rw [List.map_map];rfl
theorem ids_next(zs:List Alm):(zs.map nxt).map Prod.fst=zs.map Prod.fst:=by rw [List.map_map];rfl
theorem ids_ag(zs:List Alm):(zs.map ag).map Prod.fst=zs.map Prod.fst:=by rw [List.map_map];rfl
theorem parts_perm(zs:List Alm):(zs.filter (fun z=>decide (z.2.1≠1)) ++ due zs).Perm zs:=by
 have:=List.filter_append_perm (fun z:Alm=>decide (z.2.1≠1)) zs
 have e:zs.filter (fun z=>!decide (z.2.1≠1))=due zs:=by
  unfold due
  congr 1
  funext z
  simp
 rw [e] at this
 exact this
theorem mid_ids{zs:List Alm}(h:Ids zs)(i:Nat):Ids (mid zs i ++ (due zs).drop i):=by
 have h1:Ids (zs.filter (fun z=>decide (z.2.1≠1)) ++ due zs):=(((parts_perm zs).map Prod.fst).nodup_iff).2 h
 unfold Ids at h1 ⊢
 unfold mid stay agn
 rw [List.map_append,List.map_append,ids_next,ids_ag]
 rw [List.map_append] at h1
 refine h1.sublist ?_
 rw [List.append_assoc]
 refine List.Sublist.append (List.Sublist.refl _) ?_
 conv=>rhs;rw [←List.take_append_drop i (due zs),List.map_append]
 exact List.Sublist.append (List.Sublist.map _ List.filter_sublist) (List.Sublist.refl _)
theorem mid_mem{zs:List Alm}(h:Fine zs){i:Nat}{z:Alm}(hz:z∈mid zs i):0<=z.1/\z.1 < 9223372036854775808/\1<=z.2.1/\z.2.1<=1073741824/\0<=z.2.2/\z.2.2<=1073741824:=by
 unfold mid stay agn at hz
 rcases List.mem_append.1 hz with hz | hz
 ·obtain⟨y,hy,rfl⟩:=List.mem_map.1 hz
  obtain⟨hy,hn⟩:=List.mem_filter.1 hy
  have:=h.all hy
  have hn':¬ y.2.1=1:=by simpa using hn
  simp only [nxt]
  omega
 ·obtain⟨y,hy,rfl⟩:=List.mem_map.1 hz
  obtain⟨hy,hn⟩:=List.mem_filter.1 hy
  have:=h.all (List.mem_filter.1 (List.mem_of_mem_take hy)).1
  have hn':0 < y.2.2:=by simpa using hn
  simp only [ag]
  omega
theorem Fine.mid{zs:List Alm}(h:Fine zs)(i:Nat):Fine (mid zs i):=by
 refine Fine.of ?_ fun z hz=>mid_mem h hz
 have:=mid_ids h.ids i
 unfold Ids at this ⊢
 rw [List.map_append] at this
 exact(List.nodup_append.1 this).1
theorem Fine.tick{zs:List Alm}(h:Fine zs):Fine (tickL zs):=by rw [←mid_all];exact h.mid _
theorem mid_not{zs:List Alm}(h:Ids zs){i:Nat}{q:Alm}(hq:(due zs)[i]?=some q):has (two (mid zs i)) q.1=false:=by
 cases hh:has (two (mid zs i)) q.1 with
 | false=>rfl
 | true =>
  obtain⟨z,hz,e⟩:=has_two.1 hh
  have:=mid_ids h i
  unfold Ids at this
  rw [List.map_append,List.nodup_append] at this
  obtain⟨hi,e2⟩:=List.getElem?_eq_some_iff.1 hq
  have hd:q∈(due zs).drop i:=by
   rw [List.drop_eq_getElem_cons hi,e2]
   simp
  exact absurd e (this.2.2 _ (List.mem_map.2 ⟨z,hz,rfl⟩) _ (List.mem_map.2 ⟨q,hd,rfl⟩))
theorem mid_len(zs:List Alm)(i:Nat):(mid zs i).length+((due zs).drop i).length<=zs.length:=by
 have h1:=(parts_perm zs).length_eq
 rw [List.length_append] at h1
 have h2:=List.length_filter_le (fun z:Alm=>decide (0 < z.2.2)) ((due zs).take i)
 unfold mid stay agn
 rw [List.length_append,List.length_map,List.length_map,List.length_drop]
 have h3:((due zs).take i).length<=(due zs).length:=by rw [List.length_take];omega
 have h4:((due zs).take i).length<=i:=by rw [List.length_take];omega
 omega
theorem due_len(zs:List Alm):(due zs).length<=zs.length:=List.length_filter_le _ _
theorem pr_start(zs:List Alm)(p:Int×Int):p∈pr (mid zs 0 ++ (due zs).drop 0)↔p∈pr zs:=by
 rw [mid_zero,List.drop_zero,pr_app]
 unfold stay
 rw [pr_next,←pr_app]
 exact((parts_perm zs).map we).mem_iff
theorem pr_again{zs:List Alm}{i:Nat}{q:Alm}(hq:(due zs)[i]?=some q)(h0:0 < q.2.2):pr (mid zs (i+1) ++ (due zs).drop (i+1))=pr (mid zs i ++ (due zs).drop i):=by
 obtain⟨hi,e⟩:=List.getElem?_eq_some_iff.1 hq
 rw [mid_succ zs i q hq,if_pos h0,List.drop_eq_getElem_cons hi,e,pr_app,pr_app,pr_app]
 simp [pr,we,ag]
theorem pr_once{zs:List Alm}(h:Ids zs){i:Nat}{q:Alm}(hq:(due zs)[i]?=some q)(h0:¬ 0 < q.2.2)(p:Int×Int) :
  p∈pr (mid zs (i+1) ++ (due zs).drop (i+1))↔p∈(pr (mid zs i ++ (due zs).drop i)).filter (fun y=>decide (y.1≠q.1)):=by
 obtain⟨hi,e⟩:=List.getElem?_eq_some_iff.1 hq
 have hn:=mid_ids h i
 rw [List.drop_eq_getElem_cons hi,e] at hn ⊢
 rw [mid_succ zs i q hq,if_neg h0,List.append_nil]
 unfold Ids at hn
 rw [List.map_append,List.map_cons,List.nodup_append,List.nodup_cons] at hn
 obtain⟨_,⟨h1,_⟩,h2⟩:=hn
 rw [List.mem_filter,pr_app,pr_app,List.mem_append,List.mem_append]
 have ec:pr (q :: (due zs).drop (i+1))=we q :: pr ((due zs).drop (i+1)):=rfl
 rw [ec,List.mem_cons]
 constructor
 ·rintro (hp | hp)
  ·refine⟨Or.inl hp,?_⟩
   obtain⟨z,hz,rfl⟩:=List.mem_map.1 hp
   have:=h2 _ (List.mem_map.2 ⟨z,hz,rfl⟩) q.1 (by simp)
   exact decide_eq_true this
  ·refine⟨Or.inr (Or.inr hp),?_⟩
   obtain⟨z,hz,rfl⟩:=List.mem_map.1 hp
   have:¬ z.1=q.1:=fun e=>h1 (List.mem_map.2 ⟨z,hz,e⟩)
   exact decide_eq_true this
 ·rintro ⟨hp | hp | hp,hne⟩
  ·exact Or.inl hp
  ·subst hp
   simp [we] at hne
  ·exact Or.inr hp
theorem pr_off(zs:List Alm)(who:Int):pr (off zs who)=(pr zs).filter (fun y=>decide (y.1≠who)):=by
 unfold pr off
 rw [List.filter_map]
 rfl
theorem kw:Maps.Keyed Tryz.prog 3:=Maps.int_keyed Tryz.underlying3
theorem zeroI(w:World):(zeroValue 2).run Tryz.prog w=.ok (.int .i64 0) w:=by kernel_rfl
def S64(z:Int):Prop:=-9223372036854775808<=z/\z<=9223372036854775807
theorem S64.key{z:Int}(h:S64 z):keyOf Tryz.prog 3 (.int .i64 z)=some (.int .i64 z):=Maps.keyOf_int_mk Tryz.underlying3 (WalkArith.wf_i64 h)
theorem S64.lit{z:Int}(h:S64 z):WideAt.IsKeyLit (.int .i64 z):=kw.key h.key
def hasP(ps:List (Int×Int))(z:Int):Bool:=ps.any (fun p=>decide (p.1=z))
structure EM (w:World) (mb n:Nat) (ps:List (Int×Int)) (D:DataW Unit):Prop where
 own:w.ownsMap Tryz.prog 3 (plainElem Tryz.prog 2) mb n D
 has:∀ z,S64 z->Maps.has D (.int .i64 z)=hasP ps z
 at_:∀ p∈ps,S64 p.1/\D.atKey (.int .i64 p.1) (.lit (.int .i64 0))=.lit (.int .i64 p.2)
def EMp(w:World)(mb n:Nat)(ps:List (Int×Int)):Prop:=∃ D,EM w mb n ps D
theorem hasP_yes{ps:List (Int×Int)}{z:Int}:hasP ps z=true↔∃ p∈ps,p.1=z:=by simp [hasP]
theorem hasP_congr{ps qs:List (Int×Int)}(h:∀ p,p∈qs↔p∈ps)(z:Int):hasP qs z=hasP ps z:=by
 apply Bool.eq_iff_iff.2
 rw [hasP_yes,hasP_yes]
 constructor
 ·rintro ⟨p,hp,e⟩;exact⟨p,(h p).1 hp,e⟩
 ·rintro ⟨p,hp,e⟩;exact⟨p,(h p).2 hp,e⟩
theorem EMp.congr{w:World}{mb n:Nat}{ps qs:List (Int×Int)}(h:EMp w mb n ps)(hm:∀ p,p∈qs↔p∈ps):EMp w mb n qs:=by
 obtain⟨D,h1,h2,h3⟩:=h
 exact⟨D,h1,fun z hz=>by rw [h2 z hz,hasP_congr hm],fun p hp=>h3 p ((hm p).1 hp)⟩
theorem EMp.lt{w:World}{mb n:Nat}{ps:List (Int×Int)}(h:EMp w mb n ps):mb < w.heap.size:=by
 obtain⟨D,h1,_⟩:=h
 exact h1.lt
theorem EMp.isMap{w:World}{mb n:Nat}{ps:List (Int×Int)}(h:EMp w mb n ps):∃ es c,w.heap[mb]?=some (.map es c):=by
 obtain⟨D,⟨es,c,h1,_⟩,_⟩:=h
 exact⟨es,c,h1⟩
theorem EMp.ne{w:World}{mb n:Nat}{ps:List (Int×Int)}(h:EMp w mb n ps){g:Nat}{cs:Array Value}{t:TypeId}{k:Nat×Nat}(hg:w.heap[g]?=some (.cells cs t k)):mb≠g:=by
 rintro rfl
 obtain⟨es,c,e⟩:=h.isMap
 rw [hg] at e
 cases e
theorem EMp.buts{w w':World}{mb n:Nat}{ps:List (Int×Int)}{l:List Nat}(h:EMp w mb n ps)(hb:Buts l w w')(hm:mb ∉ l):EMp w' mb n ps:=by
 obtain⟨D,⟨es,c,e,r⟩,h2,h3⟩:=h
 exact⟨D,⟨es,c,(hb.block mb (Array.getElem?_eq_some_iff.1 e).1 hm).trans e,r⟩,h2,h3⟩
theorem EMp.below{w w':World}{mb n:Nat}{ps:List (Int×Int)}(h:EMp w mb n ps)(hb:Below w.heap.size w w'):EMp w' mb n ps:=h.buts (l:=[]) (Buts.of hb) (by simp)
theorem EMp.mono{w:World}{mb n n':Nat}{ps:List (Int×Int)}(h:EMp w mb n ps)(hn:n<=n'):EMp w mb n' ps:=by
 obtain⟨D,h1,h2,h3⟩:=h
 exact⟨D,h1.mono hn,h2,h3⟩
theorem EMp.made(w:World):EMp (w.alloc (.map #[] 0)) w.heap.size 0 [] :=
 ⟨.map [],World.ownsMap_made _ _ _ _,fun z _=>rfl,by simp⟩
theorem lit_ne{a b:Int}(h:a≠b):(Lit.int .i64 a)≠Lit.int .i64 b:=fun e=>h (by injection e)
theorem EM.put{w w':World}{mb n:Nat}{ps:List (Int×Int)}{D:DataW Unit}(h:EM w mb n ps D){who e:Int}(hw:S64 who)(h':w'.ownsMap Tryz.prog 3 (plainElem Tryz.prog 2) mb (n+1) (D.put (.int .i64 who) (.lit (.int .i64 e)))) :
  EMp w' mb (n+1) (ps.filter (fun p=>decide (p.1≠who)) ++ [(who,e)]):=by
 refine⟨_,h',fun z hz=>?_,fun p hp=>?_⟩
 ·by_cases c:z=who
  ·subst c
   rw [Maps.has_put_same h.own.isMap hz.lit]
   exact(hasP_yes.2 ⟨(z,e),by simp,rfl⟩).symm
  ·rw [Maps.has_put_other (lit_ne c),h.has z hz]
   apply Bool.eq_iff_iff.2
   rw [hasP_yes,hasP_yes]
   constructor
   ·rintro ⟨p,hp,e1⟩
    exact⟨p,by simp [hp,e1,c],e1⟩
   ·rintro ⟨p,hp,e1⟩
    rcases List.mem_append.1 hp with hp | hp
    ·exact⟨p,(List.mem_filter.1 hp).1,e1⟩
    ·obtain rfl:p=(who,e):=by simpa using hp
     exact absurd e1.symm c
 ·rcases List.mem_append.1 hp with hp | hp
  ·obtain⟨hp,hn⟩:=List.mem_filter.1 hp
   have hn':p.1≠who:=by simpa using hn
   rw [Maps.atKey_put_other (lit_ne hn')]
   exact h.at_ p hp
  ·obtain rfl:p=(who,e):=by simpa using hp
   exact⟨hw,Maps.atKey_put_same h.own.isMap hw.lit _ _⟩
theorem EM.del{w w':World}{mb n:Nat}{ps:List (Int×Int)}{D:DataW Unit}(h:EM w mb n ps D){who:Int}(hw:S64 who)(h':w'.ownsMap Tryz.prog 3 (plainElem Tryz.prog 2) mb n (D.del (.int .i64 who))) :
  EMp w' mb n (ps.filter (fun p=>decide (p.1≠who))):=by
 refine⟨_,h',fun z hz=>?_,fun p hp=>?_⟩
 ·by_cases c:z=who
  ·subst c
   rw [Maps.has_del_same]
   cases hh:hasP (ps.filter (fun p=>decide (p.1≠z))) z with
   | false=>rfl
   | true =>
    obtain⟨p,hp,e1⟩:=hasP_yes.1 hh
    have:=(List.mem_filter.1 hp).2
    simp [e1] at this
  ·rw [Maps.has_del_other (lit_ne c),h.has z hz]
   apply Bool.eq_iff_iff.2
   rw [hasP_yes,hasP_yes]
   constructor
   ·rintro ⟨p,hp,e1⟩
    exact⟨p,List.mem_filter.2 ⟨hp,by simp [e1,c]⟩,e1⟩
   ·rintro ⟨p,hp,e1⟩
    exact⟨p,(List.mem_filter.1 hp).1,e1⟩
 ·obtain⟨hp,hn⟩:=List.mem_filter.1 hp
  have hn':p.1≠who:=by simpa using hn
  rw [Maps.atKey_del_other (lit_ne hn')]
  exact h.at_ p hp
theorem wpList_look_em{w:World}{ops:Array Oper}{rest:List Oper}{o:Oper}{a:Go.Act}{Q:Exit->Go.Act->World->Prop}(hg:o.guard=none)(m x:Operand)(hop:o.op=Op.lookup 145 m x true)
  {mb n:Nat} {ps:List (Int×Int)} (h:EMp w mb n ps) (hm:a.eval m=.map (some mb)) {who:Int} (hx:a.eval x=.int .i64 who) (hw:S64 who)
  (hK:∀ c:Int,wpList Tryz.prog ops Q rest (a.put o.dst (.tuple #[.int .i64 c,.bool (hasP ps who)])) w):wpList Tryz.prog ops Q (o :: rest) a w:=by
 obtain⟨D,h1,h2,h3⟩:=h
 refine wpList_lookup_own_ok_int w hg m x 145 hop 3 2 .i64 kw Tryz.underlying145 Tryz.underlying2 (zeroI _) mb n D hm h1 _ _ hx hw.key fun c hat hwc=>?_
 rw [h2 who hw]
 exact hK c
theorem wpList_at_em{w:World}{ops:Array Oper}{rest:List Oper}{o:Oper}{a:Go.Act}{Q:Exit->Go.Act->World->Prop}(hg:o.guard=none)(m x:Operand)(hop:o.op=Op.lookup 145 m x false)
  {mb n:Nat} {ps:List (Int×Int)} (h:EMp w mb n ps) (hm:a.eval m=.map (some mb)) {who e:Int} (hx:a.eval x=.int .i64 who) (hw:(who,e)∈ps)
  (hK:wpList Tryz.prog ops Q rest (a.put o.dst (.int .i64 e)) w):wpList Tryz.prog ops Q (o :: rest) a w:=by
 obtain⟨D,h1,h2,h3⟩:=h
 obtain⟨hs,hat0⟩:=h3 _ hw
 refine wpList_lookup_own_int w hg m x 145 hop 3 2 .i64 kw Tryz.underlying145 Tryz.underlying2 (zeroI _) mb n D hm h1 _ _ hx hs.key fun c hat hwc=>?_
 rw [hat0] at hat
 obtain rfl:e=c:=by injection hat with h;injection h
 exact hK
theorem wpList_put_em{w:World}{ops:Array Oper}{rest:List Oper}{o:Oper}{a:Go.Act}{Q:Exit->Go.Act->World->Prop}(hg:o.guard=none)(m x v:Operand)(hop:o.op=Op.mapUpdate 145 m x v)
  {mb n:Nat} {ps:List (Int×Int)} (h:EMp w mb n ps) (hn:n<=100000) (hm:a.eval m=.map (some mb)) {who e:Int} (hx:a.eval x=.int .i64 who) (hv:a.eval v=.int .i64 e) (hw:S64 who) (he:S64 e)
  (hK:∀ w',Hid (EMp w' mb (n+1) (ps.filter (fun p=>decide (p.1≠who)) ++ [(who,e)]))->Hid (Buts [mb] w w')->wpList Tryz.prog ops Q rest (a.put o.dst undef) w'):wpList Tryz.prog ops Q (o :: rest) a w:=by
 obtain⟨D,hE⟩:=h
 refine wpList_mapUpdate_own w hg m x v 145 hop 3 2 kw Tryz.underlying145 _ mb n D hm hE.own (by unfold maxLen;omega) _ _ _ hx hv hw.key _ [] (plainElem_int Tryz.underlying2 (WalkArith.wf_i64 he)) fun w' h1 h2=>?_
 exact hK w' (hE.put hw h1) (show Buts [mb] w w' by simpa using Buts.grown h2)
theorem wpList_del_em{w:World}{ops:Array Oper}{rest:List Oper}{o:Oper}{a:Go.Act}{Q:Exit->Go.Act->World->Prop}(hg:o.guard=none)(m x:Operand)(hop:o.op=Op.call { callee:=Callee.builtin Builtin.delete,args:=#[m,x],argTypes:=#[145,3] })
  {mb n:Nat} {ps:List (Int×Int)} (h:EMp w mb n ps) (hm:a.eval m=.map (some mb)) {who:Int} (hx:a.eval x=.int .i64 who) (hw:S64 who)
  (hK:∀ w',Hid (EMp w' mb n (ps.filter (fun p=>decide (p.1≠who))))->Hid (Buts [mb] w w')->wpList Tryz.prog ops Q rest (a.put o.dst (.tuple #[])) w'):wpList Tryz.prog ops Q (o :: rest) a w:=by
 obtain⟨D,hE⟩:=h
 refine wpList_delete_own w hg m x 145 3 hop 2 kw Tryz.underlying145 _ mb n D hm hE.own _ _ hx hw.key fun w' h1 h2=>?_
 exact hK w' (hE.del hw h1) (show Buts [mb] w w' by simpa using Buts.grown h2.grown)
structure Ax (B:Nat) (w:World) (p mb tb n:Nat) (v:Value) (ps ys:List (Int×Int)):Prop where
 blk:w.heap[p]?=some (.cells #[.map (some mb),.pointer (some ⟨tb,0,none⟩)] 147 (0,0))
 low:B<=p/\B<=mb
 em:EMp w mb n ps
 ls:Lst B w tb v ys
theorem Ax.buts{B:Nat}{w w':World}{p mb tb n:Nat}{v:Value}{ps ys:List (Int×Int)}{l:List Nat}(h:Ax B w p mb tb n v ps ys)(hb:Buts l w w')(hp:p ∉ l)(hm:mb ∉ l)(ht:tb ∉ l)(hl:∀ g,v.ownBlock=some g->g ∉ l):Ax B w' p mb tb n v ps ys :=
 ⟨(hb.block p (at_lt h.blk) hp).trans h.blk,h.low,h.em.buts hb hm,h.ls.buts hb ht hl⟩
theorem Ax.below{B:Nat}{w w':World}{p mb tb n:Nat}{v:Value}{ps ys:List (Int×Int)}(h:Ax B w p mb tb n v ps ys)(hb:Below w.heap.size w w'):Ax B w' p mb tb n v ps ys :=
 h.buts (l:=[]) (Buts.of hb) (by simp) (by simp) (by simp) (fun _ _=>by simp)
theorem Ax.mono{B:Nat}{w:World}{p mb tb n n':Nat}{v:Value}{ps ys:List (Int×Int)}(h:Ax B w p mb tb n v ps ys)(hn:n<=n'):Ax B w p mb tb n' v ps ys:=⟨h.blk,h.low,h.em.mono hn,h.ls⟩
theorem Ax.congr{B:Nat}{w:World}{p mb tb n:Nat}{v:Value}{ps qs ys:List (Int×Int)}(h:Ax B w p mb tb n v ps ys)(hm:∀ x,x∈qs↔x∈ps):Ax B w p mb tb n v qs ys:=⟨h.blk,h.low,h.em.congr hm,h.ls⟩
theorem Ax.c0{B:Nat}{w:World}{p mb tb n:Nat}{v:Value}{ps ys:List (Int×Int)}(h:Ax B w p mb tb n v ps ys):w.cell? ⟨p,0,none⟩=some (.map (some mb)):=by rw [cell_of h.blk];rfl
theorem Ax.c1{B:Nat}{w:World}{p mb tb n:Nat}{v:Value}{ps ys:List (Int×Int)}(h:Ax B w p mb tb n v ps ys):w.cell? ⟨p,1,none⟩=some (.pointer (some ⟨tb,0,none⟩)):=by rw [cell_of h.blk];rfl
theorem Ax.mp{B:Nat}{w:World}{p mb tb n:Nat}{v:Value}{ps ys:List (Int×Int)}(h:Ax B w p mb tb n v ps ys):mb≠p:=h.em.ne h.blk
theorem Ax.mt{B:Nat}{w:World}{p mb tb n:Nat}{v:Value}{ps ys:List (Int×Int)}(h:Ax B w p mb tb n v ps ys):mb≠tb:=h.em.ne h.ls.ch.head
theorem Ax.tp{B:Nat}{w:World}{p mb tb n:Nat}{v:Value}{ps ys:List (Int×Int)}(h:Ax B w p mb tb n v ps ys):p≠tb:=by
 rintro rfl
 have:=h.ls.ch.head
 rw [h.blk] at this
 simp at this
theorem Ax.mv{B:Nat}{w:World}{p mb tb n:Nat}{v:Value}{ps ys:List (Int×Int)}(h:Ax B w p mb tb n v ps ys){g:Nat}(hg:v.ownBlock=some g):g≠mb:=by
 obtain⟨cur,hc⟩:=h.ls.ch.own.kind hg
 exact fun e=>h.em.ne hc e.symm
theorem Ax.pv{B:Nat}{w:World}{p mb tb n:Nat}{v:Value}{ps ys:List (Int×Int)}(h:Ax B w p mb tb n v ps ys){g:Nat}(hg:v.ownBlock=some g):g≠p:=by
 obtain⟨cur,hc⟩:=h.ls.ch.own.kind hg
 rintro rfl
 have:=h.blk
 rw [hc] at this
 simp at this
def pts(mb tb:Nat)(v:Value):List Nat:=mb :: tb :: v.ownBlock.toList
theorem mem_pts{mb tb:Nat}{v:Value}{x:Nat}:x∈pts mb tb v↔x=mb∨x=tb∨v.ownBlock=some x:=by
 unfold pts
 cases v.ownBlock <;> simp [eq_comm]
theorem Ax.kept{B:Nat}{w w1:World}{p mb tb n:Nat}{v:Value}{ps ys:List (Int×Int)}(h:Ax B w p mb tb n v ps ys)(hb:Buts [mb] w w1):Lst B w1 tb v ys :=
 h.ls.buts hb (by simpa using h.mt.symm) (fun g hg=>by simpa using h.mv hg)
theorem Ax.turn{B:Nat}{w w1:World}{p mb tb n m:Nat}{v:Value}{ps qs ys:List (Int×Int)}(h:Ax B w p mb tb n v ps ys)(hb:Buts [mb] w w1)(he:EMp w1 mb m qs):Ax B w1 p mb tb m v qs ys :=
 ⟨(hb.block p (at_lt h.blk) (by simpa using h.mp.symm)).trans h.blk,h.low,he,h.kept hb⟩
def NxA(B:Nat)(w w':World)(p mb tb n:Nat)(v:Value)(ps ys:List (Int×Int)):Prop :=
 ∃ v',Ax B w' p mb tb n v' ps ys/\Buts (pts mb tb v) w w'/\∀ g,v'.ownBlock=some g->v.ownBlock=some g∨w.heap.size<=g
theorem Ax.next{B:Nat}{w w':World}{p mb tb n:Nat}{v:Value}{ps ys:List (Int×Int)}(h:Ax B w p mb tb n v ps ys)(hb:Below w.heap.size w w'):NxA B w w' p mb tb n v ps ys:=⟨v,h.below hb,Buts.of hb,fun g hg=>Or.inl hg⟩
theorem Ax.done{B:Nat}{w w1 w2:World}{p mb tb n m:Nat}{v:Value}{ps qs ys us:List (Int×Int)}(h:Ax B w p mb tb n v ps ys)(hb:Buts [mb] w w1)(he:EMp w1 mb m qs)(hn:Nt B w1 w2 tb v us):NxA B w w2 p mb tb m v qs us:=by
 obtain⟨v',hl,hb2,hv⟩:=hn
 have h1:=h.turn hb he
 have hp:p ∉ (tb :: v.ownBlock.toList):=by
  intro hm
  rcases List.mem_cons.1 hm with e | e
  ·exact h.tp e
  ·exact h.pv (by simpa using e) rfl
 have hm:mb ∉ (tb :: v.ownBlock.toList):=by
  intro hm
  rcases List.mem_cons.1 hm with e | e
  ·exact h.mt e
  ·exact h.mv (by simpa using e) rfl
 exact⟨v',⟨(hb2.block p (at_lt h1.blk) hp).trans h1.blk,h1.low,he.buts hb2 hm,hl⟩,(hb.mono (by simp [pts])).trans (hb2.mono (by intro x hx;unfold pts;exact List.mem_cons_of_mem _ hx)),fun g hg=>(hv g hg).imp id (fun h=>Nat.le_trans hb.size h)⟩
theorem NxA.trans{B:Nat}{w w1 w2:World}{p mb tb m:Nat}{v v1:Value}{qs us:List (Int×Int)}(hb:Buts (pts mb tb v) w w1)(hv:∀ g,v1.ownBlock=some g->v.ownBlock=some g∨w.heap.size<=g)(h2:NxA B w1 w2 p mb tb m v1 qs us):NxA B w w2 p mb tb m v qs us:=by
 obtain⟨v2,h,hb2,hv2⟩:=h2
 refine⟨v2,h,⟨hb2.os.trans hb.os,hb2.tape.trans hb.tape,hb2.output.trans hb.output,Nat.le_trans hb.size hb2.size,fun k hk hm=>?_⟩,fun g hg=>?_⟩
 ·refine(hb2.block k (Nat.lt_of_lt_of_le hk hb.size) fun hx=>hm ?_).trans (hb.block k hk hm)
  rcases mem_pts.1 hx with e | e | e
  ·exact mem_pts.2 (Or.inl e)
  ·exact mem_pts.2 (Or.inr (Or.inl e))
  ·rcases hv k e with c | c
   ·exact mem_pts.2 (Or.inr (Or.inr c))
   ·omega
 ·rcases hv2 g hg with c | c
  ·exact hv g c
  ·exact Or.inr (Nat.le_trans hb.size c)
structure Al (B:Nat) (w:World) (p mb tb n:Nat) (v:Value) (zs:List Alm):Prop where
 ax:Ax B w p mb tb n v (pr zs) (two zs)
 fine:Fine zs
theorem Al.buts{B:Nat}{w w':World}{p mb tb n:Nat}{v:Value}{zs:List Alm}{l:List Nat}(h:Al B w p mb tb n v zs)(hb:Buts l w w')(hp:p ∉ l)(hm:mb ∉ l)(ht:tb ∉ l)(hl:∀ g,v.ownBlock=some g->g ∉ l):Al B w' p mb tb n v zs:=⟨h.ax.buts hb hp hm ht hl,h.fine⟩
theorem Al.below{B:Nat}{w w':World}{p mb tb n:Nat}{v:Value}{zs:List Alm}(h:Al B w p mb tb n v zs)(hb:Below w.heap.size w w'):Al B w' p mb tb n v zs:=⟨h.ax.below hb,h.fine⟩
theorem Al.mono{B:Nat}{w:World}{p mb tb n n':Nat}{v:Value}{zs:List Alm}(h:Al B w p mb tb n v zs)(hn:n<=n'):Al B w p mb tb n' v zs:=⟨h.ax.mono hn,h.fine⟩
theorem Al.len{B:Nat}{w:World}{p mb tb n:Nat}{v:Value}{zs:List Alm}(h:Al B w p mb tb n v zs):zs.length<=1000:=by have:=h.ax.ls.len;rw [two_len] at this;exact this
def NxL(B:Nat)(w w':World)(p mb tb n:Nat)(v:Value)(zs:List Alm):Prop :=
 ∃ v',Al B w' p mb tb n v' zs/\Buts (pts mb tb v) w w'/\∀ g,v'.ownBlock=some g->v.ownBlock=some g∨w.heap.size<=g
theorem NxA.al{B:Nat}{w w':World}{p mb tb n:Nat}{v:Value}{zs:List Alm}{ps ys:List (Int×Int)}(h:NxA B w w' p mb tb n v ps ys)(hp:∀ x,x∈pr zs↔x∈ps)(hy:ys=two zs)(hf:Fine zs):NxL B w w' p mb tb n v zs:=by
 obtain⟨v',hx,hb,hv⟩:=h
 subst hy
 exact⟨v',⟨hx.congr hp,hf⟩,hb,hv⟩
theorem Al.next{B:Nat}{w w':World}{p mb tb n:Nat}{v:Value}{zs:List Alm}(h:Al B w p mb tb n v zs)(hb:Below w.heap.size w w'):NxL B w w' p mb tb n v zs:=⟨v,h.below hb,Buts.of hb,fun g hg=>Or.inl hg⟩
theorem anew_any(w:World)(B:Nat)(hB:B<=w.heap.size):Calls Tryz.prog 31 #[] w fun e w'=>∃ p mb tb,e=.returned (.pointer (some ⟨p,0,none⟩))/\Al B w' p mb tb 0 (.slice none 0 0) []/\Below w.heap.size w w'/\w.heap.size<=p/\w.heap.size<=mb/\w.heap.size<=tb:=by
 have hmm:=@run_makeMap Tryz.prog
 have HB:Hid (B<=w.heap.size):=hB
 have HN:Hid (Calls Tryz.prog 30 #[] (w.alloc (.map #[] 0)) fun e w'=>∃ tb,e=.returned (.pointer (some ⟨tb,0,none⟩))/\Lst B w' tb (.slice none 0 0) []/\Below (w.heap.size+1) (w.alloc (.map #[] 0)) w'/\w.heap.size<=tb):=by
  have:=new_any (w.alloc (.map #[] 0)) B (by rw [alloc_size];omega)
  rw [alloc_size] at this
  refine this.mono ?_
  rintro e w' ⟨rfl,h1,h2⟩
  exact⟨_,rfl,h1,h2,by omega⟩
 clear hB
 go_enter Tryz.func31,Tryz.ntmps31
 go_wp2_with (go_at_call 30;refine HN.out.mono ?_;rintro e w1 ⟨tb,rfl,hl,hb,ht⟩;have HL:Hid (Lst B w1 tb (.slice none 0 0) []/\Below (w.heap.size+1) (w.alloc (.map #[] 0)) w1/\w.heap.size<=tb):=⟨hl,hb,ht⟩;clear hl hb ht)
 go_ret
 obtain⟨hl,hb,ht⟩:=HL.out
 have hs:=hb.size
 rw [alloc_size] at hs
 have hb0:Below w.heap.size w w1:=(alloc_below w (.map #[] 0)).trans (hb.mono (by omega))
 refine⟨w1.heap.size,w.heap.size,tb,rfl,⟨⟨alloc_at w1 _,⟨by have:=HB.out;omega,HB.out⟩,?_,hl.below (alloc_below _ _)⟩,Fine.nil⟩,hb0.trans ((alloc_below w1 _).mono hb0.size),hb0.size,Nat.le_refl _,ht⟩
 have:=(EMp.made w).buts (l:=[]) (w':=w1) ⟨hb.os,hb.tape,hb.output,hb.size,fun k hk _=>hb.block k (by rw [alloc_size] at hk;exact hk)⟩ (by simp)
 exact this.below (alloc_below _ _)
theorem athere_yes{w:World}{p tb:Nat}(c1:w.cell? ⟨p,1,none⟩=some (.pointer (some ⟨tb,0,none⟩))):Calls Tryz.prog 86 #[.pointer (some ⟨p,0,none⟩)] w fun e w'=>e=.returned (.bool true)/\w=w':=by
 go_enter Tryz.func86,Tryz.ntmps86
 go_wp2
 go_ret
 exact⟨rfl,rfl⟩
theorem amay_is{w:World}{p tb:Nat}(c1:w.cell? ⟨p,1,none⟩=some (.pointer (some ⟨tb,0,none⟩)))(who i e:Int) :
  Calls Tryz.prog 193 #[.pointer (some ⟨p,0,none⟩),.int .i64 who,.int .i64 i,.int .i64 e] w fun x w'=>x=.returned (.int .i64 (startE who i e))/\w=w':=by
 by_cases h1:who < 0
 ·have ee:startE who i e=1:=by simp [startE,h1]
  rw [ee]
  clear ee
  go_enter Tryz.func193,Tryz.ntmps193
  go_wp2_with (go_at_call 86;refine(athere_yes c1).mono ?_;rintro x w' ⟨rfl,rfl⟩)
  go_ret
  exact⟨rfl,rfl⟩
 ·by_cases hb:badT i e
  ·have ee:startE who i e=4:=by simp [startE,h1,hb]
   rw [ee]
   clear ee
   by_cases h2:i < 1
   ·clear hb
    go_enter Tryz.func193,Tryz.ntmps193
    go_wp2_with (go_at_call 86;refine(athere_yes c1).mono ?_;rintro x w' ⟨rfl,rfl⟩)
    go_ret
    exact⟨rfl,rfl⟩
   ·by_cases h3:1073741824 < i
    ·clear hb
     go_enter Tryz.func193,Tryz.ntmps193
     go_wp2_with (go_at_call 86;refine(athere_yes c1).mono ?_;rintro x w' ⟨rfl,rfl⟩)
     go_ret
     exact⟨rfl,rfl⟩
    ·by_cases h4:e < 0
     ·clear hb
      go_enter Tryz.func193,Tryz.ntmps193
      go_wp2_with (go_at_call 86;refine(athere_yes c1).mono ?_;rintro x w' ⟨rfl,rfl⟩)
      go_ret
      exact⟨rfl,rfl⟩
     ·have h5:1073741824 < e:=by unfold badT at hb;omega
      clear hb
      go_enter Tryz.func193,Tryz.ntmps193
      go_wp2_with (go_at_call 86;refine(athere_yes c1).mono ?_;rintro x w' ⟨rfl,rfl⟩)
      go_ret
      exact⟨rfl,rfl⟩
  ·have ee:startE who i e=0:=by simp [startE,h1,hb]
   rw [ee]
   have h2:¬ i < 1:=fun h=>hb (Or.inl h)
   have h3:¬ 1073741824 < i:=fun h=>hb (Or.inr (Or.inl h))
   have h4:¬ e < 0:=fun h=>hb (Or.inr (Or.inr (Or.inl h)))
   have h5:¬ 1073741824 < e:=fun h=>hb (Or.inr (Or.inr (Or.inr h)))
   clear ee hb
   go_enter Tryz.func193,Tryz.ntmps193
   go_wp2_with (go_at_call 86;refine(athere_yes c1).mono ?_;rintro x w' ⟨rfl,rfl⟩)
   go_ret
   exact⟨rfl,rfl⟩
theorem hasP_pr(zs:List Alm)(who:Int):hasP (pr zs) who=has (two zs) who:=by
 unfold hasP has pr two
 rw [List.any_map,List.any_map]
 rfl
theorem stop_is{B:Nat}{w:World}{p mb tb n:Nat}{v:Value}{zs:List Alm}(h:Al B w p mb tb n v zs){who:Int}(hs:S64 who) :
  Calls Tryz.prog 53 #[.pointer (some ⟨p,0,none⟩),.int .i64 who] w fun e w'=>e=.returned (.int .i64 (stopE zs who))/\NxL B w w' p mb tb n v (off zs who):=by
 have HL:Hid (Al B w p mb tb n v zs):=h
 have HS:Hid (S64 who):=hs
 have c0:=h.ax.c0
 have c1:=h.ax.c1
 have C1:Hid (w.cell? ⟨p,1,none⟩=some (.pointer (some ⟨tb,0,none⟩))):=c1
 by_cases hh:has (two zs) who=true
 ·have e:stopE zs who=0:=by simp [stopE,hh]
  rw [e]
  have HP:Hid (hasP (pr zs) who=true):=(hasP_pr zs who).trans hh
  have HR:Hid (∀ w1,EMp w1 mb n ((pr zs).filter (fun p=>decide (p.1≠who)))->Buts [mb] w w1->Calls Tryz.prog 96 #[.pointer (some ⟨tb,0,none⟩),.int .i64 who] w1 fun e w'=>∃ z,e=.returned (.int .i64 z)/\NxL B w w' p mb tb n v (off zs who)):=fun w1 he hb=>by
   refine(remove_is (HL.out.ax.kept hb) who).mono ?_
   rintro e w' ⟨rfl,hn⟩
   rw [←two_off] at hn
   exact⟨_,rfl,(HL.out.ax.done hb he hn).al (fun x=>by rw [pr_off]) rfl (HL.out.fine.off who)⟩
  clear h hs hh e
  go_enter Tryz.func53,Tryz.ntmps53
  go_wp2_with (first
   |(go_at_call 86;refine(athere_yes C1.out).mono ?_;rintro e w' ⟨rfl,rfl⟩)
   |(at_lookup;refine wpList_look_em rfl _ _ rfl HL.out.ax.em rfl rfl HS.out ?_;intro c;rw [HP.out])
   |(at_delete;refine wpList_del_em rfl _ _ rfl HL.out.ax.em rfl rfl HS.out ?_;intro w1 HE HB;have k1:=(HL.out.ax.turn HB.out HE.out).c1;have HC:=HR.out w1 HE.out HB.out;have HD:Hid (Calls Tryz.prog 96 #[.pointer (some ⟨tb,0,none⟩),.int .i64 who] w1 fun e w'=>∃ z,e=.returned (.int .i64 z)/\NxL B w w' p mb tb n v (off zs who)):=HC;clear HC)
   |(go_at_call 96;refine HD.out.mono ?_;rintro e w2 ⟨z,rfl,hn⟩;have HN:Hid (NxL B w w2 p mb tb n v (off zs who)):=hn;clear hn))
  go_ret
  exact⟨rfl,HN.out⟩
 ·have hh':has (two zs) who=false:=by simpa using hh
  have e:stopE zs who=7:=by simp [stopE,hh']
  have HP:Hid (hasP (pr zs) who=false):=(hasP_pr zs who).trans hh'
  rw [e,off_not hh']
  clear h hs hh hh' e
  go_enter Tryz.func53,Tryz.ntmps53
  go_wp2_with (first
   |(go_at_call 86;refine(athere_yes C1.out).mono ?_;rintro e w' ⟨rfl,rfl⟩)
   |(at_lookup;refine wpList_look_em rfl _ _ rfl HL.out.ax.em rfl rfl HS.out ?_;intro c;rw [HP.out]))
  go_ret
  exact⟨rfl,HL.out.next (Below.refl _ _)⟩
theorem put_clear{ys:List (Int×Int)}{who i:Int}(h0:0<=who)(h1:1<=i)(h2:i<=1073741824)(hn:has ys who=false):putL ys who i=ys ++ [(who,i)]:=by
 have:¬ badArg who i:=by unfold badArg;omega
 simp [putL,this,hn]
theorem start_is{B:Nat}{w:World}{p mb tb n:Nat}{v:Value}{zs:List Alm}(h:Al B w p mb tb n v zs){who:Int}(hs:S64 who)(i e:Int)(hl:zs.length < 1000)(hn:n<=100000)(hB:B<=w.heap.size) :
  Calls Tryz.prog 165 #[.pointer (some ⟨p,0,none⟩),.int .i64 who,.int .i64 i,.int .i64 e] w fun x w'=>x=.returned (.int .i64 (startE who i e))/\NxL B w w' p mb tb (n+1) v (startL zs who i e):=by
 have HM:Hid (Calls Tryz.prog 193 #[.pointer (some ⟨p,0,none⟩),.int .i64 who,.int .i64 i,.int .i64 e] w fun x w'=>x=.returned (.int .i64 (startE who i e))/\w=w'):=amay_is h.ax.c1 who i e
 by_cases he:startE who i e=0
 ·have h0:¬ who < 0:=fun c=>by simp [startE,c] at he
  have h1:¬ badT i e:=fun c=>by simp [startE,h0,c] at he
  have hL:startL zs who i e=off zs who ++ [(who,i,e)]:=by simp [startL,he]
  have hw0:0<=who:=by omega
  have hi1:1<=i:=by unfold badT at h1;omega
  have hi2:i<=1073741824:=by unfold badT at h1;omega
  have he1:0<=e:=by unfold badT at h1;omega
  have he2:e<=1073741824:=by unfold badT at h1;omega
  have HF:Hid (Fine (startL zs who i e)):=h.fine.start (by have:=hs.2;omega)
  have HE:Hid (S64 who/\S64 e):=⟨hs,by unfold S64;omega⟩
  have HST:Hid (Calls Tryz.prog 53 #[.pointer (some ⟨p,0,none⟩),.int .i64 who] w fun x w'=>∃ (z:Int) (v':Value),x=.returned (.int .i64 z)/\Al B w' p mb tb n v' (off zs who)/\Buts (pts mb tb v) w w'/\∀ g,v'.ownBlock=some g->v.ownBlock=some g∨w.heap.size<=g):=by
   refine(stop_is h hs).mono ?_
   rintro x w' ⟨rfl,v',h1,h2,h3⟩
   exact⟨_,v',rfl,h1,h2,h3⟩
  have HPT:Hid (∀ (w1 w2:World) (v':Value),Al B w1 p mb tb n v' (off zs who)->Buts (pts mb tb v) w w1->(∀ g,v'.ownBlock=some g->v.ownBlock=some g∨w.heap.size<=g)->EMp w2 mb (n+1) ((pr (off zs who)).filter (fun p=>decide (p.1≠who)) ++ [(who,e)])->Buts [mb] w1 w2 ->
    Calls Tryz.prog 131 #[.pointer (some ⟨tb,0,none⟩),.int .i64 who,.int .i64 i] w2 fun x w'=>∃ z:Int,x=.returned (.int .i64 z)/\NxL B w w' p mb tb (n+1) v (startL zs who i e)):=fun w1 w2 v' ha hb hv hem hb2=>by
   refine(put_is (ha.ax.kept hb2) who i (by rw [two_len];have:=off_len zs who;omega) (by have:=hb.size;have:=hb2.size;omega)).mono ?_
   rintro x w' ⟨rfl,hnt⟩
   rw [put_clear hw0 hi1 hi2 (has_off zs who)] at hnt
   refine⟨_,rfl,NxA.al (NxA.trans hb hv (ha.ax.done hb2 hem hnt)) (fun x=>?_) ?_ HF.out⟩
   ·rw [hL,pr_app,pr_off,List.filter_filter]
    simp [pr,we]
   ·rw [hL,two_app]
    rfl
  rw [he] at HM ⊢
  clear h hs hl hB he h0 h1 hL hw0 hi1 hi2 he1 he2
  have HNN:Hid (n<=100000):=hn
  clear hn
  go_enter Tryz.func165,Tryz.ntmps165
  go_wp2_with (first
   |(go_at_call 193;refine HM.out.mono ?_;rintro x w' ⟨rfl,rfl⟩)
   |(go_at_call 53;refine HST.out.mono ?_;rintro x w1 ⟨z1,v1,rfl,ha,hb,hv⟩;have k0:=ha.ax.c0;have HA1:Hid (Al B w1 p mb tb n v1 (off zs who)/\Buts (pts mb tb v) w w1/\∀ g,v1.ownBlock=some g->v.ownBlock=some g∨w.heap.size<=g):=⟨ha,hb,hv⟩;clear ha hb hv HST)
   |(at_mapUpdate;refine wpList_put_em rfl _ _ _ rfl HA1.out.1.ax.em HNN.out rfl rfl rfl HE.out.1 HE.out.2 ?_;intro w2 HM2 HB2;have k1:=(HA1.out.1.ax.turn HB2.out HM2.out).c1;have HC:=HPT.out w1 w2 v1 HA1.out.1 HA1.out.2.1 HA1.out.2.2 HM2.out HB2.out;have HD:Hid (Calls Tryz.prog 131 #[.pointer (some ⟨tb,0,none⟩),.int .i64 who,.int .i64 i] w2 fun x w'=>∃ z:Int,x=.returned (.int .i64 z)/\NxL B w w' p mb tb (n+1) v (startL zs who i e)):=HC;clear HC)
   |(go_at_call 131;refine HD.out.mono ?_;rintro x w3 ⟨z2,rfl,hn⟩;have HN:Hid (NxL B w w3 p mb tb (n+1) v (startL zs who i e)):=hn;clear hn))
  go_ret
  exact⟨rfl,HN.out⟩
 ·have hL:startL zs who i e=zs:=by simp [startL,he]
  have HL:Hid (Al B w p mb tb n v zs):=h
  rw [hL]
  obtain⟨z,hz⟩:∃ z,startE who i e=z:=⟨_,rfl⟩
  rw [hz] at HM he ⊢
  clear h hs hl hB hL hz hn
  go_enter Tryz.func165,Tryz.ntmps165
  go_wp2_with (go_at_call 193;refine HM.out.mono ?_;rintro x w' ⟨rfl,rfl⟩)
  go_ret
  exact⟨rfl,(HL.out.mono (Nat.le_succ n)).next (Below.refl _ _)⟩
/-- what becomes of those that come -/
theorem come_is{B:Nat}{w:World}{p mb tb n:Nat}{v:Value}{zs:List Alm}(h:Ax B w p mb tb n v (pr zs) (two (stay zs)))(hf:Fine zs)(hlen:zs.length<=1000)(hB:B<=w.heap.size){sp:Option Addr}{cap m:Nat}(hm:(due zs).length=m){g:Nat}
  (hsp:0 < m->sp=some ⟨g,0,none⟩) (hcs:∀ k,k < m->w.cell? ⟨g,k,none⟩=some (.int .i64 ((due zs).getD k (0,0,0)).1)) (hg:g < w.heap.size) (hgn:g ∉ pts mb tb v) :
  Calls Tryz.prog 87 #[.pointer (some ⟨p,0,none⟩),.slice sp m cap] w fun x w'=>x=.returned (.tuple #[])/\NxL B w w' p mb tb n v (tickL zs):=by
 have HX:Hid (NxA B w w p mb tb n v (pr (mid zs 0 ++ (due zs).drop 0)) (two (mid zs 0))):=by
  rw [mid_zero]
  have:=(h.congr (qs:=pr (mid zs 0 ++ (due zs).drop 0)) (pr_start zs)).next (Below.refl w.heap.size w)
  rw [mid_zero] at this
  exact this
 have HCS:=(show Hid _ from hcs)
 have HG:Hid (g < w.heap.size/\g ∉ pts mb tb v):=⟨hg,hgn⟩
 have HF:Hid (Fine zs):=hf
 have HM:Hid ((due zs).length=m):=hm
 have HLN:Hid (zs.length<=1000/\B<=w.heap.size):=⟨hlen,hB⟩
 clear h hcs hg hgn hf hlen hB
 have hmm:m<=1000:=by have:=due_len zs;have:=HLN.out;omega
 clear hm
 go_enter Tryz.func87,Tryz.ntmps87
 go_wp2
 go_loopg [5,6,9] m (fun gk s5 s6 s9 wx=>∃ i:Nat,i+gk=m/\s9=.int .i64 (i:Int)/\Hid (NxA B w wx p mb tb n v (pr (mid zs i ++ (due zs).drop i)) (two (mid zs i))))
 case atStart=>exact⟨0,by omega,rfl,HX.out⟩
 case round =>
  obtain⟨i,hig,rfl,HN⟩:=hrel
  cases gk with
  | zero =>
   obtain rfl:i=m:=by omega
   have hlt:¬ ((i:Int) < i):=by omega
   go_wp2
   go_end0
   refine⟨rfl,NxA.al HN.out (fun x=>?_) ?_ HF.out.tick⟩
   ·rw [←HM.out,List.drop_length,List.append_nil,mid_all]
   ·rw [←HM.out,mid_all]
  | succ g' =>
   have hlt:(i:Int) < m:=by omega
   have him:i < m:=by omega
   obtain rfl:=hsp (by omega)
   obtain⟨v1,hx,hb,hv⟩:=HN.out
   have c0:=hx.c0
   have c1:=hx.c1
   have d0:=HCS.out i him
   have dw:wr.cell? ⟨g,i,none⟩=w.cell? ⟨g,i,none⟩:=by
    have:=hb.block g HG.out.1 HG.out.2
    simp [World.cell?,this]
   rw [←dw] at d0
   obtain⟨q,hq⟩:∃ q,(due zs)[i]?=some q:=⟨_,List.getElem?_eq_getElem (by rw [HM.out];exact him)⟩
   have hqd:(due zs).getD i (0,0,0)=q:=by rw [List.getD_eq_getElem?_getD,hq];rfl
   rw [hqd] at d0
   have hql:=List.mem_filter.1 (List.mem_of_getElem? hq)
   have hfa:=HF.out.all hql.1
   have hin:(q.1,q.2.2)∈pr (mid zs i ++ (due zs).drop i):=by
    obtain⟨hi',e'⟩:=List.getElem?_eq_some_iff.1 hq
    rw [pr_app,List.drop_eq_getElem_cons hi',e']
    simp [pr,we]
   have HPT:Hid (0 < q.2.2->Calls Tryz.prog 131 #[.pointer (some ⟨tb,0,none⟩),.int .i64 q.1,.int .i64 q.2.2] wr fun x w'=>∃ z:Int,x=.returned (.int .i64 z)/\NxA B w w' p mb tb n v (pr (mid zs (i+1) ++ (due zs).drop (i+1))) (two (mid zs (i+1)))):=fun h0=>by
    have hlm:(two (mid zs i)).length < 1000:=by
     rw [two_len]
     have h1:=mid_len zs i
     rw [List.length_drop,HM.out] at h1
     have:=HLN.out.1
     omega
    refine(put_is hx.ls q.1 q.2.2 hlm (by have:=hb.size;have:=HLN.out.2;omega)).mono ?_
    rintro x w' ⟨rfl,hnt⟩
    rw [put_clear hfa.1 (by omega) hfa.2.2.2.2.2 (mid_not HF.out.ids hq)] at hnt
    refine⟨_,rfl,?_⟩
    rw [pr_again hq h0,mid_succ zs i q hq,if_pos h0,two_app]
    exact NxA.trans hb hv (hx.done (Buts.refl _ _) hx.em hnt)
   have HDL:Hid (¬ 0 < q.2.2->∀ w1,EMp w1 mb n ((pr (mid zs i ++ (due zs).drop i)).filter (fun p=>decide (p.1≠q.1)))->Buts [mb] wr w1->NxA B w w1 p mb tb n v (pr (mid zs (i+1) ++ (due zs).drop (i+1))) (two (mid zs (i+1)))):=fun h0 w1 he hb1=>by
    rw [show two (mid zs (i+1))=two (mid zs i) by rw [mid_succ zs i q hq,if_neg h0,List.append_nil]]
    exact NxA.trans hb hv ⟨v1,(hx.turn hb1 he).congr (pr_once HF.out.ids hq h0),hb1.mono (by simp [pts]),fun g hg=>Or.inl hg⟩
   have HEM:Hid (EMp wr mb n (pr (mid zs i ++ (due zs).drop i))):=hx.em
   have HIN:Hid ((q.1,q.2.2)∈pr (mid zs i ++ (due zs).drop i)):=hin
   have HS:Hid (S64 q.1):=by show S64 q.1;unfold S64;omega
   clear hx hb hv dw hq hqd hql hfa hin hsp
   obtain⟨a,t,e⟩:=q
   simp only at d0 HPT HDL HIN HS
   by_cases h0:0 < e
   ·have HPC:Hid (Calls Tryz.prog 131 #[.pointer (some ⟨tb,0,none⟩),.int .i64 a,.int .i64 e] wr fun x w'=>∃ z:Int,x=.returned (.int .i64 z)/\NxA B w w' p mb tb n v (pr (mid zs (i+1) ++ (due zs).drop (i+1))) (two (mid zs (i+1)))):=HPT.out h0
    clear HPT HDL
    go_wp2_with (first
     |(at_lookup;refine wpList_at_em rfl _ _ rfl HEM.out rfl rfl HIN.out ?_)
     |(go_at_call 131;refine HPC.out.mono ?_;rintro x w1 ⟨z1,rfl,hn⟩;have HN1:=(show Hid _ from hn);clear hn))
    go_roundg g'
    case measure=>omega
    case rel=>exact⟨i+1,by omega,by go_num,HN1.out⟩
   ·have HDC:=HDL.out h0
    have HDD:=(show Hid _ from HDC)
    clear HPT HDL HDC
    go_wp2_with (first
     |(at_lookup;refine wpList_at_em rfl _ _ rfl HEM.out rfl rfl HIN.out ?_)
     |(at_delete;refine wpList_del_em rfl _ _ rfl HEM.out rfl rfl HS.out ?_;intro w1 HE HB1;have HN1:Hid (NxA B w w1 p mb tb n v (pr (mid zs (i+1) ++ (due zs).drop (i+1))) (two (mid zs (i+1)))):=HDD.out w1 HE.out HB1.out))
    go_roundg g'
    case measure=>omega
    case rel=>exact⟨i+1,by omega,by go_num,HN1.out⟩
theorem atick_is{B:Nat}{w:World}{p mb tb n:Nat}{v:Value}{zs:List Alm}(h:Al B w p mb tb n v zs)(hB:B<=w.heap.size) :
  Calls Tryz.prog 47 #[.pointer (some ⟨p,0,none⟩)] w fun x w'=>∃ us uc,x=.returned (.slice us (due zs).length uc)/\w'.ownsRow w.heap.size 3 1 (.slice us (due zs).length uc) (due zs).length (num ((due zs).map Prod.fst))/\NxL B w w' p mb tb n v (tickL zs):=by
 have HL:Hid (Al B w p mb tb n v zs):=h
 have c1:=h.ax.c1
 have HT:Hid (Calls Tryz.prog 45 #[.pointer (some ⟨tb,0,none⟩)] w fun x w'=>∃ us uc,x=.returned (.slice us (due zs).length uc)/\w'.ownsRow w.heap.size 3 1 (.slice us (due zs).length uc) (due zs).length (num ((due zs).map Prod.fst))/\Nt B w w' tb v (two (stay zs))):=by
  refine(tick_is h.ax.ls hB).mono ?_
  rintro x w' ⟨u,rfl,hr,_,hn⟩
  rw [two_woke,List.length_map] at hr
  rw [←two_rest] at hn
  obtain⟨us,uc,e,_⟩:=own_form hr
  subst e
  exact⟨us,uc,rfl,hr,hn⟩
 have HB:Hid (B<=w.heap.size):=hB
 have HC:Hid (∀ (w1:World) (us:Option Addr) (uc:Nat),w1.ownsRow w.heap.size 3 1 (.slice us (due zs).length uc) (due zs).length (num ((due zs).map Prod.fst))->Nt B w w1 tb v (two (stay zs)) ->
   Calls Tryz.prog 87 #[.pointer (some ⟨p,0,none⟩),.slice us (due zs).length uc] w1 fun x w'=>x=.returned (.tuple #[])/\w'.ownsRow w.heap.size 3 1 (.slice us (due zs).length uc) (due zs).length (num ((due zs).map Prod.fst))/\NxL B w w' p mb tb n v (tickL zs)):=fun w1 us uc hr hn=>by
  obtain⟨v1,hx,hb,hv⟩:=HL.out.ax.done (Buts.refl _ _) HL.out.ax.em hn
  have hkeep:∀ g,(Value.slice us (due zs).length uc).ownBlock=some g->g ∉ pts mb tb v1:=by
   intro g hg hm
   have h1:=(hr.lt g hg).1
   rcases mem_pts.1 hm with e | e | e
   ·subst e
    have:=HL.out.ax.em.lt
    omega
   ·subst e
    have:=at_lt HL.out.ax.ls.ch.head
    omega
   ·exact own_ne hr hg hx.ls.ch.own e (by decide) rfl
  have hfin:∀ (x:Ending) (w':World),(x=.returned (.tuple #[])/\NxL B w1 w' p mb tb n v1 (tickL zs))->x=.returned (.tuple #[])/\w'.ownsRow w.heap.size 3 1 (.slice us (due zs).length uc) (due zs).length (num ((due zs).map Prod.fst))/\NxL B w w' p mb tb n v (tickL zs):=by
   rintro x w' ⟨rfl,v2,ha,hb2,hv2⟩
   refine⟨rfl,owns_buts hr hb2 hkeep,?_⟩
   exact NxA.al (NxA.trans hb hv ⟨v2,ha.ax,hb2,hv2⟩) (fun x=>Iff.rfl) rfl ha.fine
  have hsz:=hb.size
  by_cases h0:0 < (due zs).length
  ·obtain⟨g,cap,e,_⟩:=owns_spot hr h0
   simp only [Value.slice.injEq] at e
   obtain⟨rfl,_,rfl⟩:=e
   refine(come_is hx HL.out.fine HL.out.len (by have:=HB.out;omega) rfl (g:=g) (fun _=>rfl) (fun k hk=>?_) (hr.lt g rfl).2 (hkeep g rfl)).mono hfin
   have:=hr.cellAt k (by omega)
   rw [this,num_at _ _ (by rw [List.length_map];exact hk)]
   congr 2
   rw [List.getD_eq_getElem?_getD,List.getD_eq_getElem?_getD,List.getElem?_map,List.getElem?_eq_getElem hk]
   rfl
  ·refine(come_is hx HL.out.fine HL.out.len (by have:=HB.out;omega) rfl (g:=p) (fun h=>absurd h h0) (fun k hk=>absurd hk (by omega)) (at_lt hx.blk) (fun hm=>?_)).mono hfin
   rcases mem_pts.1 hm with e | e | e
   ·exact hx.mp e.symm
   ·exact hx.tp e
   ·exact hx.pv e rfl
 clear h hB
 generalize hm:(due zs).length=m at HT HC ⊢
 generalize num ((due zs).map Prod.fst)=N at HT HC ⊢
 have HN2:Hid (Nt B w w tb v (two zs)):=HL.out.ax.ls.next (Below.refl _ _)
 clear hm
 go_enter Tryz.func47,Tryz.ntmps47
 go_wp2_with (first
  |(go_at_call 86;refine(athere_yes c1).mono ?_;rintro x w' ⟨rfl,rfl⟩)
  |(go_at_call 45;refine HT.out.mono ?_;rintro x w1 ⟨us,uc,rfl,hr,hn⟩;have HC1:=HC.out w1 us uc hr hn;have HC2:Hid (Calls Tryz.prog 87 #[.pointer (some ⟨p,0,none⟩),.slice us m uc] w1 fun x w'=>x=.returned (.tuple #[])/\w'.ownsRow w.heap.size 3 1 (.slice us m uc) m N/\NxL B w w' p mb tb n v (tickL zs)):=HC1;clear hr hn HC1)
  |(go_at_call 87;refine HC2.out.mono ?_;rintro x w2 ⟨rfl,hr,hn⟩;have HN:Hid (w2.ownsRow w.heap.size 3 1 (.slice us m uc) m N/\NxL B w w2 p mb tb n v (tickL zs)):=⟨hr,hn⟩;clear hr hn))
 go_ret
 exact⟨us,uc,rfl,HN.out⟩
end Go.Proofs.YtbbdndfibjdcfaaGreat.Tm
