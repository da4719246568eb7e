/- Package kernel, proved: part KtK4. No law of the program itself. -/
import Derived.OwnWalkIn
import Derived.RangeFuncBox
import Derived.Maps.OwnSet
import Derived.Test.YtbbdndfibjdcfaaGreatKtK3
import Derived.Test.YtbbdndfibjdcfaaGreatKtA1
set_option maxRecDepth 100000
set_option linter.all false
set_option maxHeartbeats 16000000
namespace Go.Proofs.YtbbdndfibjdcfaaGreat
open Go Go.RowKit
def nils(n:Nat):Array Value:=(List.replicate n (Value.pointer none)).toArray
theorem made_nil(n:Nat):madeCells (Value.pointer none).cells n=nils n:=by
 unfold nils
 apply Array.ext_getElem?
 intro i
 by_cases hi:i < n
 ·simp [madeCells,Value.cells,hi,Nat.mod_one]
 ·simp [madeCells,Value.cells,hi]
theorem infoTP:(Tryz.prog.info? 109).map (fun i=>(i.zero,i.size,i.bytes))=some (some (.pointer none),1,8):=by kernel_rfl
theorem infoXP:(Tryz.prog.info? 77).map (fun i=>(i.zero,i.size,i.bytes))=some (some (.pointer none),1,8):=by kernel_rfl
theorem make_tp(w:World)(l:Nat)(hc:l<=1000000) :
  (Instr.makeSlice 73 (.int .i64 l) (.int .i64 l)).run Tryz.prog w=.ok (.slice (some ⟨w.heap.size,0,none⟩) l l) (w.alloc (.cells (nils l) 109)):=by
 obtain⟨i,hi,h1,h2,h3⟩:=info_parts' infoTP
 have:=run_make w 73 109 i (.pointer none) Tryz.underlying73 hi h1 .i64 .i64 l l (by omega) (by omega) (by rw [h3];omega) (by omega)
 rw [this,h2,Nat.mul_one,made_nil]
 simp
theorem make_xp(w:World)(l:Nat)(hc:l<=1000000) :
  (Instr.makeSlice 80 (.int .i64 l) (.int .i64 l)).run Tryz.prog w=.ok (.slice (some ⟨w.heap.size,0,none⟩) l l) (w.alloc (.cells (nils l) 77)):=by
 obtain⟨i,hi,h1,h2,h3⟩:=info_parts' infoXP
 have:=run_make w 80 77 i (.pointer none) Tryz.underlying80 hi h1 .i64 .i64 l l (by omega) (by omega) (by rw [h3];omega) (by omega)
 rw [this,h2,Nat.mul_one,made_nil]
 simp
theorem shelf_end{w w1:World}{n:Nat}{T:TypeId}(hr:w1.heap[w.heap.size]?=some (.cells #[.pointer none,.slice none 0 0] T (0,0)))(ht:Hd.Tab w1 (w.heap.size+1) n Hd.none0)(hb:Below w.heap.size w w1)(p0 p1:Value)(ns:Array Value)(ty:TypeId) :
  (((w1.setCell ⟨w.heap.size,0,none⟩ p0).setCell ⟨w.heap.size,1,none⟩ p1).alloc (.cells ns ty)).heap[w.heap.size]?=some (.cells #[p0,p1] T (0,0))/\Hd.Tab (((w1.setCell ⟨w.heap.size,0,none⟩ p0).setCell ⟨w.heap.size,1,none⟩ p1).alloc (.cells ns ty)) (w.heap.size+1) n Hd.none0 /\
  (((w1.setCell ⟨w.heap.size,0,none⟩ p0).setCell ⟨w.heap.size,1,none⟩ p1).alloc (.cells ns ty)).heap[w1.heap.size]?=some (.cells ns ty (0,0))/\Below w.heap.size w (((w1.setCell ⟨w.heap.size,0,none⟩ p0).setCell ⟨w.heap.size,1,none⟩ p1).alloc (.cells ns ty)):=by
 have h1:=set_block hr 0 p0
 have h2:=set_block h1 1 p1
 have hbb:Hd.Buts [w.heap.size] w1 ((w1.setCell ⟨w.heap.size,0,none⟩ p0).setCell ⟨w.heap.size,1,none⟩ p1):=(Hd.Buts.cell w1 w.heap.size 0 p0).trans (Hd.Buts.cell _ w.heap.size 1 p1)
 obtain⟨W,hW⟩:∃ W,(w1.setCell ⟨w.heap.size,0,none⟩ p0).setCell ⟨w.heap.size,1,none⟩ p1=W:=⟨_,rfl⟩
 rw [hW] at h2 hbb ⊢
 have hs:W.heap.size=w1.heap.size:=by rw [←hW];simp [World.setCell]
 have hal:=alloc_below W (.cells ns ty)
 have hlt:=at_lt hr
 refine⟨(hal.block _ (by omega)).trans h2,(ht.buts hbb (by simp)).below hal,?_,(hb.trans (hbb.below (by simp) (by omega))).trans (hal.mono (by omega))⟩
 have:=alloc_at W (.cells ns ty)
 rw [hs] at this
 exact this
theorem newT_any(w:World):Calls Tryz.prog 27 #[.int .i64 16] w fun e w'=>∃ tn ta,e=.returned (.agg #[.pointer (some ⟨tn,0,none⟩),.slice (some ⟨ta,0,none⟩) 16 16])/\Hd.Tab w' tn 16 Hd.none0/\w'.heap[ta]?=some (.cells (nils 16) 109 (0,0))/\w.heap.size<=tn/\tn < ta/\Below w.heap.size w w':=by
 have hmk:∀ w:World,(Instr.makeSlice 73 (.int .i64 16) (.int .i64 16)).run Tryz.prog w=.ok (.slice (some ⟨w.heap.size,0,none⟩) 16 16) (w.alloc (.cells (nils 16) 109)):=fun w=>make_tp w 16 (by omega)
 obtain⟨ns,hns⟩:∃ ns,nils 16=ns:=⟨_,rfl⟩
 rw [hns] at hmk ⊢
 clear hns
 have HN:Hid (∀ wx:World,Calls Tryz.prog 70 #[.int .i64 16] wx fun e w'=>e=.returned (.tuple #[.pointer (some ⟨wx.heap.size,0,none⟩),.int .i64 0])/\Hd.Tab w' wx.heap.size 16 Hd.none0/\Below wx.heap.size wx w'):=fun wx=>Hd.new_yes 16 (by decide) (by decide)
 have HA:=alloc_at w (.cells #[.pointer none,.slice none 0 0] 75)
 have HB:=alloc_below w (.cells #[.pointer none,.slice none 0 0] 75)
 have HZ:=alloc_size w (.cells #[.pointer none,.slice none 0 0] 75)
 have HH:Hid ((w.alloc (.cells #[.pointer none,.slice none 0 0] 75)).heap[w.heap.size]?=some (.cells #[.pointer none,.slice none 0 0] 75 (0,0))/\Below w.heap.size w (w.alloc (.cells #[.pointer none,.slice none 0 0] 75))/\(w.alloc (.cells #[.pointer none,.slice none 0 0] 75)).heap.size=w.heap.size+1):=⟨HA,HB,HZ⟩
 clear HA HB HZ
 go_enter Tryz.func27,Tryz.ntmps27
 go_wp2_with (first
  |(go_at_call 70;refine(HN.out _).mono ?_;rintro e w1 ⟨rfl,ht,hb⟩;have HT:Hid (Hd.Tab w1 (w.alloc (.cells #[.pointer none,.slice none 0 0] 75)).heap.size 16 Hd.none0/\Below (w.alloc (.cells #[.pointer none,.slice none 0 0] 75)).heap.size (w.alloc (.cells #[.pointer none,.slice none 0 0] 75)) w1):=⟨ht,hb⟩;have HR:Hid (w1.heap[w.heap.size]?=some (.cells #[.pointer none,.slice none 0 0] 75 (0,0))):=((hb.block _ (by rw [HH.out.2.2];omega)).trans HH.out.1);have v0:w1.cell? ⟨w.heap.size,0,none⟩=some (.pointer none):=(by rw [cell_of HR.out];rfl);have v1:w1.cell? ⟨w.heap.size,1,none⟩=some (.slice none 0 0):=(by rw [cell_of HR.out];rfl);have u0:w1.frozen? ⟨w.heap.size,0,none⟩=false:=(by simp [World.frozen?,HR.out]);have u1:w1.frozen? ⟨w.heap.size,1,none⟩=false:=(by simp [World.frozen?,HR.out]);have hlt:w.heap.size < w1.heap.size:=at_lt HR.out;clear ht hb))
 obtain⟨q1,q2,q3,q4⟩:=shelf_end HR.out (HH.out.2.2 ▸ HT.out.1) (HH.out.2.1.trans (HT.out.2.mono (by rw [HH.out.2.2];omega))) (.pointer (some ⟨w.heap.size+1,0,none⟩)) (.slice (some ⟨w1.heap.size,0,none⟩) 16 16) ns 109
 have hlt2:=HT.out.1.lt
 rw [HH.out.2.2] at hlt2
 refine bodyPost_ret (results_cell_row (g:=w.heap.size) rfl _ _ _ _ _ (d:=_) rfl q1 Tryz.underlying75 rfl (by kernel_rfl)) rfl ?_
 exact⟨_,_,rfl,q2,q3,by omega,hlt2,q4⟩
theorem newX_any(w:World):Calls Tryz.prog 28 #[.int .i64 32] w fun e w'=>∃ tn ta,e=.returned (.agg #[.pointer (some ⟨tn,0,none⟩),.slice (some ⟨ta,0,none⟩) 32 32])/\Hd.Tab w' tn 32 Hd.none0/\w'.heap[ta]?=some (.cells (nils 32) 77 (0,0))/\w.heap.size<=tn/\tn < ta/\Below w.heap.size w w':=by
 have hmk:∀ w:World,(Instr.makeSlice 80 (.int .i64 32) (.int .i64 32)).run Tryz.prog w=.ok (.slice (some ⟨w.heap.size,0,none⟩) 32 32) (w.alloc (.cells (nils 32) 77)):=fun w=>make_xp w 32 (by omega)
 obtain⟨ns,hns⟩:∃ ns,nils 32=ns:=⟨_,rfl⟩
 rw [hns] at hmk ⊢
 clear hns
 have HN:Hid (∀ wx:World,Calls Tryz.prog 70 #[.int .i64 32] wx fun e w'=>e=.returned (.tuple #[.pointer (some ⟨wx.heap.size,0,none⟩),.int .i64 0])/\Hd.Tab w' wx.heap.size 32 Hd.none0/\Below wx.heap.size wx w'):=fun wx=>Hd.new_yes 32 (by decide) (by decide)
 have HA:=alloc_at w (.cells #[.pointer none,.slice none 0 0] 82)
 have HB:=alloc_below w (.cells #[.pointer none,.slice none 0 0] 82)
 have HZ:=alloc_size w (.cells #[.pointer none,.slice none 0 0] 82)
 have HH:Hid ((w.alloc (.cells #[.pointer none,.slice none 0 0] 82)).heap[w.heap.size]?=some (.cells #[.pointer none,.slice none 0 0] 82 (0,0))/\Below w.heap.size w (w.alloc (.cells #[.pointer none,.slice none 0 0] 82))/\(w.alloc (.cells #[.pointer none,.slice none 0 0] 82)).heap.size=w.heap.size+1):=⟨HA,HB,HZ⟩
 clear HA HB HZ
 go_enter Tryz.func28,Tryz.ntmps28
 go_wp2_with (first
  |(go_at_call 70;refine(HN.out _).mono ?_;rintro e w1 ⟨rfl,ht,hb⟩;have HT:Hid (Hd.Tab w1 (w.alloc (.cells #[.pointer none,.slice none 0 0] 82)).heap.size 32 Hd.none0/\Below (w.alloc (.cells #[.pointer none,.slice none 0 0] 82)).heap.size (w.alloc (.cells #[.pointer none,.slice none 0 0] 82)) w1):=⟨ht,hb⟩;have HR:Hid (w1.heap[w.heap.size]?=some (.cells #[.pointer none,.slice none 0 0] 82 (0,0))):=((hb.block _ (by rw [HH.out.2.2];omega)).trans HH.out.1);have v0:w1.cell? ⟨w.heap.size,0,none⟩=some (.pointer none):=(by rw [cell_of HR.out];rfl);have v1:w1.cell? ⟨w.heap.size,1,none⟩=some (.slice none 0 0):=(by rw [cell_of HR.out];rfl);have u0:w1.frozen? ⟨w.heap.size,0,none⟩=false:=(by simp [World.frozen?,HR.out]);have u1:w1.frozen? ⟨w.heap.size,1,none⟩=false:=(by simp [World.frozen?,HR.out]);have hlt:w.heap.size < w1.heap.size:=at_lt HR.out;clear ht hb))
 obtain⟨q1,q2,q3,q4⟩:=shelf_end HR.out (HH.out.2.2 ▸ HT.out.1) (HH.out.2.1.trans (HT.out.2.mono (by rw [HH.out.2.2];omega))) (.pointer (some ⟨w.heap.size+1,0,none⟩)) (.slice (some ⟨w1.heap.size,0,none⟩) 32 32) ns 77
 have hlt2:=HT.out.1.lt
 rw [HH.out.2.2] at hlt2
 refine bodyPost_ret (results_cell_row (g:=w.heap.size) rfl _ _ _ _ _ (d:=_) rfl q1 Tryz.underlying82 rfl (by kernel_rfl)) rfl ?_
 exact⟨_,_,rfl,q2,q3,by omega,hlt2,q4⟩
def geo0(kp tn on ta oa rp rs ep ap mb tb:Nat):Geo:=⟨kp,tn,on,ta,oa,rp,rp,rs,ep,ap,mb,tb,0,fun _=>0,fun _=>0,fun _=>0,fun _=>0,fun _=>0,fun _=>0,fun _=>true⟩
theorem new_st{w w':World}{kp tn on ta oa rp rs ep ap mb tb:Nat}{sl now:Int}(hsl:1<=sl/\sl<=1000)(hnow:0<=now/\now < 4294967296)
  (h1:Hd.Tab w' tn 16 Hd.none0) (h2:w'.heap[ta]?=some (.cells (nils 16) 109 (0,0))) (h3:Hd.Tab w' on 32 Hd.none0) (h4:w'.heap[oa]?=some (.cells (nils 32) 77 (0,0)))
  (h5:Rd.QS rp rs w' rp (fun _=>[])) (h6:Tm.Lst 0 w' ep (.slice none 0 0) []) (h7:Tm.Al 0 w' ap mb tb 0 (.slice none 0 0) [])
  (h8:w'.heap[kp]?=some (.cells #[.int .i64 sl,.int .u32 now,ptr tn,.slice (some ⟨ta,0,none⟩) 16 16,ptr on,.slice (some ⟨oa,0,none⟩) 32 32,ptr rp,ptr ep,ptr ap] 95 (0,0)))
  (hb:Below w.heap.size w w') (o1:w.heap.size<=tn) (o2:tn < ta) (o3:ta < on) (o4:on < oa) (o5:oa < rp) (o6:rs<=ep) (o7:ep < ap) (o8:ep < mb) (o9:ep < tb) (p1:ap < kp) (p2:mb < kp) (p3:tb < kp) :
  St (fun _=>0) w (geo0 kp tn on ta oa rp rs ep ap mb tb) w' (new0 sl now):=by
 have hle:=h5.le
 obtain⟨own,ho⟩:∃ own:Nat->Nat,own=fun b=>if b=kp then 1 else if b=tn then 2 else if b=on then 3 else if b=ta then 4 else if b=oa then 5 else if rp<=b/\b < rs then 6 else if b=ep then 7 else if b=ap∨b=mb∨b=tb then 8 else 0:=⟨_,rfl⟩
 have e1:own kp=1:=by rw [ho];simp
 have e2:own tn=2:=by rw [ho];simp only;rw [if_neg (by omega),if_pos trivial]
 have e3:own on=3:=by rw [ho];simp only;rw [if_neg (by omega),if_neg (by omega),if_pos trivial]
 have e4:own ta=4:=by rw [ho];simp only;rw [if_neg (by omega),if_neg (by omega),if_neg (by omega),if_pos trivial]
 have e5:own oa=5:=by rw [ho];simp only;rw [if_neg (by omega),if_neg (by omega),if_neg (by omega),if_neg (by omega),if_pos trivial]
 have e6:∀ b,rp<=b->b < rs->own b=6:=fun b c1 c2=>by rw [ho];simp only;rw [if_neg (by omega),if_neg (by omega),if_neg (by omega),if_neg (by omega),if_neg (by omega),if_pos ⟨c1,c2⟩]
 have e7:own ep=7:=by rw [ho];simp only;rw [if_neg (by omega),if_neg (by omega),if_neg (by omega),if_neg (by omega),if_neg (by omega),if_neg (by omega),if_pos trivial]
 have e8:∀ b,b=ap∨b=mb∨b=tb->own b=8:=fun b c=>by rw [ho];simp only;rw [if_neg (by omega),if_neg (by omega),if_neg (by omega),if_neg (by omega),if_neg (by omega),if_neg (by omega),if_neg (by omega),if_pos c]
 have e0:∀ b,b≠kp->b≠tn->b≠on->b≠ta->b≠oa->¬ (rp<=b/\b < rs)->b≠ep->¬ (b=ap∨b=mb∨b=tb)->own b=0:=fun b c1 c2 c3 c4 c5 c6 c7 c8=>by rw [ho];simp only;rw [if_neg c1,if_neg c2,if_neg c3,if_neg c4,if_neg c5,if_neg c6,if_neg c7,if_neg c8]
 refine⟨own,⟨fun _=>⟨e1,h8⟩,fun _=>⟨e2,h1⟩,fun _=>⟨e3,h3⟩,fun _=>⟨e4,h2⟩,fun _=>⟨e5,h4⟩,fun _=>⟨e6,h5⟩,fun _=>⟨e7,_,[],fun g hg=>?_,h6,?_⟩,fun _=>⟨e8 _ (Or.inl rfl),e8 _ (Or.inr (Or.inl rfl)),e8 _ (Or.inr (Or.inr rfl)),_,fun g hg=>?_,h7⟩,fun b c1 c2=>?_,⟨hsl,hnow.1,hnow.2⟩,fun i t ht=>(by cases ht),⟨fun o x hx=>(by cases hx),fun z hz=>(by cases hz)⟩,fun i t ht=>(by cases ht),fun o x hx=>(by cases hx),fun i t ht=>(by cases ht),fun o x hx=>(by cases hx),fun o x hx=>(by cases hx),fun o x hx=>(by cases hx)⟩,hb.os,hb.tape,hb.output,hb.size,fun b hl _=>?_,fun b hl _=>hb.block b hl⟩
 ·cases hg
 ·exact⟨fun y=>⟨fun c=>(by cases c),fun⟨i,t,_,ht,_⟩=>(by cases ht)⟩,List.Pairwise.nil,fun i t ht=>(by cases ht)⟩
 ·cases hg
 ·refine e0 b ?_ ?_ ?_ ?_ ?_ ?_ ?_ ?_
  ·rintro rfl;exact c2 (Cl.of h8)
  ·rintro rfl;exact c2 (tab_cl h1)
  ·rintro rfl;exact c2 (tab_cl h3)
  ·rintro rfl;exact c2 (Cl.of h2)
  ·rintro rfl;exact c2 (Cl.of h4)
  ·intro c;exact c1 (Or.inr c)
  ·rintro rfl;exact c2 (Cl.of h6.ch.head)
  ·rintro (rfl | rfl | rfl)
   ·exact c2 (Cl.of h7.ax.blk)
   ·exact c1 (Or.inl rfl)
   ·exact c2 (Cl.of h7.ax.ls.ch.head)
 ·exact e0 b (by omega) (by omega) (by omega) (by omega) (by omega) (by omega) (by omega) (by omega)
theorem new_yes(sl now:Int)(h:1<=sl/\sl<=1000)(hnow:0<=now/\now < 4294967296)(w:World):Calls Tryz.prog 9 #[.agg #[.int .i64 sl,.int .u32 now]] w fun e w'=>∃ G,e=.returned (.tuple #[.pointer (some ⟨G.kp,0,none⟩),.int .i64 0])/\(Shown G/\G.an=0)/\St (fun _=>0) w G w' (new0 sl now):=by
 have HH:Hid ((1<=sl/\sl<=1000)/\0<=now/\now < 4294967296):=⟨h,hnow⟩
 obtain⟨h1,h2⟩:=h
 have a0:(w.alloc (.cells #[.int .i64 sl,.int .u32 now] 24)).heap[w.heap.size]?=some (.cells #[.int .i64 sl,.int .u32 now] 24 (0,0)):=alloc_at w _
 have c0:(w.alloc (.cells #[.int .i64 sl,.int .u32 now] 24)).cell? ⟨w.heap.size,0,none⟩=some (.int .i64 sl):=by rw [cell_of a0];rfl
 have c1:(w.alloc (.cells #[.int .i64 sl,.int .u32 now] 24)).cell? ⟨w.heap.size,1,none⟩=some (.int .u32 now):=by rw [cell_of a0];rfl
 have HA:Hid (Below w.heap.size w (w.alloc (.cells #[.int .i64 sl,.int .u32 now] 24)).drew/\w.heap.size < (w.alloc (.cells #[.int .i64 sl,.int .u32 now] 24)).drew.heap.size):=⟨(alloc_below w _).trans ((below_drewN _ 1).mono (Nat.le_of_lt (at_lt a0))),at_lt a0⟩
 have HC:Hid (∀ (wx wy:World),Below wx.heap.size wx wy->wx.cell? ⟨w.heap.size,0,none⟩=some (.int .i64 sl)->wx.cell? ⟨w.heap.size,1,none⟩=some (.int .u32 now)->wy.cell? ⟨w.heap.size,0,none⟩=some (.int .i64 sl)/\wy.cell? ⟨w.heap.size,1,none⟩=some (.int .u32 now)):=fun wx wy hb q0 q1=>⟨(hb.cell (p:=⟨w.heap.size,0,none⟩) (cell_lt q0)).trans q0,(hb.cell (p:=⟨w.heap.size,1,none⟩) (cell_lt q1)).trans q1⟩
 clear a0 hnow
 go_enter Tryz.func9,Tryz.ntmps9
 go_wp2
 obtain⟨wa,hwa⟩:∃ wa,(w.alloc (.cells #[.int .i64 sl,.int .u32 now] 24)).drew=wa:=⟨_,rfl⟩
 rw [hwa] at HA
 have HWA:Hid ((w.alloc (.cells #[.int .i64 sl,.int .u32 now] 24)).drew=wa):=hwa
 have g0:wa.cell? ⟨w.heap.size,0,none⟩=some (.int .i64 sl):=hwa ▸ c0
 have g1:wa.cell? ⟨w.heap.size,1,none⟩=some (.int .u32 now):=hwa ▸ c1
 clear hwa
 go_region_held3 (fun w'=>w'.cell? ⟨w.heap.size,0,none⟩=some (.int .i64 sl)/\w'.cell? ⟨w.heap.size,1,none⟩=some (.int .u32 now)) (go_keep) (first
  |(go_at_call 27;rw [HWA.out];refine(newT_any wa).mono ?_;rintro e w2 ⟨tn,ta,rfl,T,R,l1,l2,b⟩;have H2:Hid (Hd.Tab w2 tn 16 Hd.none0/\w2.heap[ta]?=some (.cells (nils 16) 109 (0,0))/\wa.heap.size<=tn/\tn < ta/\Below wa.heap.size wa w2):=⟨T,R,l1,l2,b⟩;obtain⟨x0,x1⟩:=HC.out _ _ b g0 g1;clear T R l1 l2 b)
  |(go_at_call 28;refine(newX_any w2).mono ?_;rintro e w3 ⟨on,oa,rfl,T,R,l1,l2,b⟩;have H3:Hid (Hd.Tab w3 on 32 Hd.none0/\w3.heap[oa]?=some (.cells (nils 32) 77 (0,0))/\w2.heap.size<=on/\on < oa/\Below w2.heap.size w2 w3):=⟨T,R,l1,l2,b⟩;obtain⟨y0,y1⟩:=HC.out _ _ b x0 x1;clear T R l1 l2 b)
  |(go_at_call 29;refine(Rd.qnew_any w3).mono ?_;rintro e w4 ⟨rfl,Q,b⟩;have H4:Hid (Rd.QS w3.heap.size w4.heap.size w4 w3.heap.size (fun _=>[])/\Below w3.heap.size w3 w4):=⟨Q,b⟩;obtain⟨z0,z1⟩:=HC.out _ _ b y0 y1;clear Q b)
  |(go_at_call 30;refine(Tm.new_any w4 0 (Nat.zero_le _)).mono ?_;rintro e w5 ⟨rfl,Q,b⟩;have H5:Hid (Tm.Lst 0 w5 w4.heap.size (.slice none 0 0) []/\Below w4.heap.size w4 w5):=⟨Q,b⟩;obtain⟨u0,u1⟩:=HC.out _ _ b z0 z1;clear Q b)
  |(go_at_call 31;refine(Tm.anew_any w5 0 (Nat.zero_le _)).mono ?_;rintro e w6 ⟨ap,mb,tb,rfl,Q,b,l1,l2,l3⟩;have H6:Hid (Tm.Al 0 w6 ap mb tb 0 (.slice none 0 0) []/\Below w5.heap.size w5 w6/\w5.heap.size<=ap/\w5.heap.size<=mb/\w5.heap.size<=tb):=⟨Q,b,l1,l2,l3⟩;obtain⟨v0,v1⟩:=HC.out _ _ b u0 u1;clear Q b l1 l2 l3)
  | fail)
 obtain⟨T2,R2,l2,m2,b2⟩:=H2.out
 obtain⟨T3,R3,l3,m3,b3⟩:=H3.out
 obtain⟨Q4,b4⟩:=H4.out
 obtain⟨Q5,b5⟩:=H5.out
 obtain⟨Q6,b6,l6,l7,l8⟩:=H6.out
 have b7:=alloc_below w6 (.cells #[.int .i64 sl,.int .u32 now,ptr tn,.slice (some ⟨ta,0,none⟩) 16 16,ptr on,.slice (some ⟨oa,0,none⟩) 32 32,ptr w3.heap.size,ptr w4.heap.size,ptr ap] 95)
 have a7:=alloc_at w6 (.cells #[.int .i64 sl,.int .u32 now,ptr tn,.slice (some ⟨ta,0,none⟩) 16 16,ptr on,.slice (some ⟨oa,0,none⟩) 32 32,ptr w3.heap.size,ptr w4.heap.size,ptr ap] 95)
 have s2:=b2.size
 have s3:=b3.size
 have s4:=b4.size
 have s5:=b5.size
 have s6:=b6.size
 have t67:=b7
 have t57:=b6.trans (b7.mono s6)
 have t47:=b5.trans (t57.mono s5)
 have t37:=b4.trans (t47.mono s4)
 have t27:=b3.trans (t37.mono s3)
 have ta2:=at_lt R2
 have oa3:=at_lt R3
 have q5:=at_lt Q5.ch.head
 have k1:=at_lt Q6.ax.blk
 have k2:=Q6.ax.em.lt
 have k3:=at_lt Q6.ax.ls.ch.head
 have hq:=Q4.le
 go_wp2
 go_ret2
 refine⟨geo0 w6.heap.size tn on ta oa w3.heap.size w4.heap.size w4.heap.size ap mb tb,rfl,⟨fun _=>rfl,rfl⟩,new_st HH.out.1 HH.out.2 (T2.below t27) ((t27.block _ ta2).trans R2) (T3.below t37) ((t37.block _ oa3).trans R3) (Q4.below t47) (Q5.below t57) (Q6.below t67) a7 (HA.out.1.trans ((b2.trans (t27.mono s2)).mono (by have:=HA.out.2;omega))) (by have:=HA.out.2;omega) m2 (by omega) m3 (by omega) (Nat.le_refl _) (by omega) (by omega) (by omega) k1 k2 k3⟩
end Go.Proofs.YtbbdndfibjdcfaaGreat
namespace Go.Proofs.YtbbdndfibjdcfaaGreat
open Go Go.RowKit
def lfS(t:Ta):Int:=if 0 < t.left then t.left else -1
def sTC(t:Ta):List Value:=[.int .u32 (t.h:Nat),.int .u8 t.st,.bool t.held,.int .i64 t.base,.int .i64 t.rank,.int .u8 t.wh,.int .u32 (t.ah:Nat),.int .u32 (t.av:Nat),.int .u32 (t.am:Nat),.int .i64 t.aw,.int .i64 (if t.st=2 then lfS t else 0),.int .i64 (wr t.ans),.int .i64 t.last,.int .u32 t.val]
section
variable {o0:Nat->Nat} {w0 w w':World} {G:Geo} {k:Kn}
theorem k_dleft(h:St o0 w0 G w k){i:Nat}{t:Ta}(ht:k.ts i=some t):Calls Tryz.prog 127 #[.pointer (some ⟨G.ep,0,none⟩),.int .i64 i] w fun e w'=>e=.returned (.tuple #[.int .i64 (if 0 < t.left then t.left else 0),.int .i64 (if 0 < t.left then 0 else 1)])/\Below w.heap.size w w':=by
 obtain⟨own,h,x⟩:=h
 obtain⟨h1,v,ys,h2,h3,h4⟩:=h.en (by decide)
 refine(Tm.left_is h3 i).mono fun e w' ⟨he,hb⟩=>⟨?_,hb⟩
 rw [he]
 by_cases c:0 < t.left
 ·have hm:((i:Int),t.left)∈ys:=(h4.mem _).2 ⟨i,t,rfl,ht,c⟩
  have e1:Tm.leftV ys (i:Int)=t.left:=Tm.leftV_at h3.good.keys hm
  have e2:Tm.remE ys (i:Int)=0:=by unfold Tm.remE;rw [Tm.has_yes.2 ⟨_,hm,rfl⟩];rfl
  rw [e1,e2,if_pos c,if_pos c]
 ·have hn:Tm.has ys (i:Int)=false:=Tm.has_no.2 fun y hy e=>by
   obtain⟨j,u,e1,hu,hl⟩:=(h4.mem y).1 hy
   subst e1
   have:j=i:=by have e':(j:Int)=i:=e;omega
   subst this
   rw [ht] at hu
   cases hu
   exact c hl
  have e2:Tm.remE ys (i:Int)=1:=by unfold Tm.remE;rw [hn];rfl
  rw [Tm.leftV_no hn,e2,if_neg c,if_neg c]
theorem leftOf_any(h:St o0 w0 G w k){i:Nat}{t:Ta}(ht:k.ts i=some t):Calls Tryz.prog 83 #[.pointer (some ⟨G.kp,0,none⟩),.pointer (some ⟨G.tp i,0,none⟩)] w fun e w'=>e=.returned (.int .i64 (lfS t))/\Below w.heap.size w w':=by
 have HL:Hid (Calls Tryz.prog 127 #[.pointer (some ⟨G.ep,0,none⟩),.int .i64 i] w.drew fun e w'=>e=.returned (.tuple #[.int .i64 (if 0 < t.left then t.left else 0),.int .i64 (if 0 < t.left then 0 else 1)])/\Below w.drew.heap.size w.drew w'):=k_dleft h.drew ht
 have c7:=h.c7
 have d14:=h.d14 ht
 by_cases c:0 < t.left
 ·have e:lfS t=t.left:=if_pos c
  rw [e]
  simp only [if_pos c] at HL
  clear h ht e c
  generalize t.left=z at *
  go_enter Tryz.func83,Tryz.ntmps83
  go_wp2
  go_region_held3 (fun w'=>w'.cell? ⟨G.kp,7,none⟩=some (.pointer (some ⟨G.ep,0,none⟩))/\w'.cell? ⟨G.tp i,14,none⟩=some (.int .i64 (i:Nat))) (go_keep) (first
   |(go_at_call 127;refine(HL.out).mono ?_;rintro e w1 ⟨rfl,hb⟩;have HB:Hid (Below w.heap.size w w1):=(below_drewN w 1).trans hb;have x7:=(hb.cell (p:=⟨G.kp,7,none⟩) (cell_lt c7)).trans c7;have x14:=(hb.cell (p:=⟨G.tp i,14,none⟩) (cell_lt d14)).trans d14;clear hb)
   | fail)
  go_wp2
  go_ret
  exact⟨rfl,HB.out⟩
 ·have e:lfS t=-1:=if_neg c
  rw [e]
  simp only [if_neg c] at HL
  clear h ht e c
  go_enter Tryz.func83,Tryz.ntmps83
  go_wp2
  go_region_held3 (fun w'=>w'.cell? ⟨G.kp,7,none⟩=some (.pointer (some ⟨G.ep,0,none⟩))/\w'.cell? ⟨G.tp i,14,none⟩=some (.int .i64 (i:Nat))) (go_keep) (first
   |(go_at_call 127;refine(HL.out).mono ?_;rintro e w1 ⟨rfl,hb⟩;have HB:Hid (Below w.heap.size w w1):=(below_drewN w 1).trans hb;have x7:=(hb.cell (p:=⟨G.kp,7,none⟩) (cell_lt c7)).trans c7;have x14:=(hb.cell (p:=⟨G.tp i,14,none⟩) (cell_lt d14)).trans d14;clear hb)
   | fail)
  go_wp2
  go_ret
  exact⟨rfl,HB.out⟩
def zT:Array Value:=#[.int .u32 0,.int .u8 0,.bool false,.int .i64 0,.int .i64 0,.int .u8 0,.int .u32 0,.int .u32 0,.int .u32 0,.int .i64 0,.int .i64 0,.int .i64 0,.int .i64 0,.int .u32 0]
def tA(t:Ta)(l:Int):Array Value:=#[.int .u32 (t.h:Nat),.int .u8 t.st,.bool t.held,.int .i64 t.base,.int .i64 t.rank,.int .u8 t.wh,.int .u32 (t.ah:Nat),.int .u32 (t.av:Nat),.int .u32 (t.am:Nat),.int .i64 t.aw,.int .i64 l,.int .i64 (wr t.ans),.int .i64 t.last,.int .u32 t.val]
theorem tA_sTC(t:Ta):(tA t (if t.st=2 then lfS t else 0))=(sTC t).toArray:=rfl
structure Two (w W:World) (n:Nat) (c0 c1:Array Value):Prop where
 b0:W.heap[n]?=some (.cells c0 48 (0,0))
 b1:W.heap[n+1]?=some (.cells c1 48 (0,0))
 lo:Below n w W
theorem Two.below{w W W':World}{n:Nat}{c0 c1:Array Value}(h:Two w W n c0 c1)(hb:Below W.heap.size W W'):Two w W' n c0 c1 :=
 ⟨(hb.block _ (at_lt h.b0)).trans h.b0,(hb.block _ (at_lt h.b1)).trans h.b1,h.lo.trans (hb.mono (Nat.le_of_lt (at_lt h.b0)))⟩
theorem Two.first(w:World):Two w ((w.alloc (.cells zT 48)).alloc (.cells zT 48)) w.heap.size zT zT:=by
 have a1:=alloc_at w (.cells zT 48)
 have a2:=alloc_at (w.alloc (.cells zT 48)) (.cells zT 48)
 have b1:=alloc_below w (.cells zT 48)
 have b2:=alloc_below (w.alloc (.cells zT 48)) (.cells zT 48)
 have s1:=alloc_size w (.cells zT 48)
 rw [s1] at a2
 exact⟨(b2.block _ (by omega)).trans a1,a2,b1.trans (b2.mono (by omega))⟩
theorem Two.set1{w W:World}{n:Nat}{c0 c1:Array Value}(h:Two w W n c0 c1)(c:Array Value):Two w (W.setRow (n+1) c) n c0 c:=by
 have hb:=Ob.setRow_buts W (n+1) c
 have h1:Ob.Blk W (n+1) c1 48:=h.b1
 have hl:=at_lt h.b0
 exact⟨(hb.block n hl (by simp)).trans h.b0,h1.setRow c,h.lo.trans ⟨hb.os,hb.tape,hb.output,hb.size,fun k hk=>hb.block k (by omega) (by simp;omega)⟩⟩
theorem Two.set0{w W:World}{n:Nat}{c0 c1:Array Value}(h:Two w W n c0 c1)(c:Array Value):Two w (W.setRow n c) n c c1:=by
 have hb:=Ob.setRow_buts W n c
 have h1:Ob.Blk W n c0 48:=h.b0
 have hl:=at_lt h.b1
 exact⟨h1.setRow c,(hb.block (n+1) hl (by simp)).trans h.b1,h.lo.trans ⟨hb.os,hb.tape,hb.output,hb.size,fun k hk=>hb.block k (by have:=at_lt h.b0;omega) (by simp;omega)⟩⟩
theorem Two.cell{w W:World}{n:Nat}{c0 c1:Array Value}(h:Two w W n c0 c1)(v:Value)(i:Nat):Two w (W.setCell ⟨n+1,i,none⟩ v) n c0 (c1.setIfInBounds i v):=by
 have hb:=Hd.Buts.cell W (n+1) i v
 have hl:=at_lt h.b0
 exact⟨(hb.block n hl (by simp)).trans h.b0,set_block h.b1 i v,h.lo.trans ⟨hb.os,hb.tape,hb.output,hb.size,fun k hk=>hb.block k (by omega) (by simp;omega)⟩⟩
theorem tA_cells{W:World}{b:Nat}{t:Ta}{l:Int}(h:W.heap[b]?=some (.cells (tA t l) 48 (0,0))):W.cell? ⟨b,0,none⟩=some (.int .u32 (t.h:Nat))/\W.cell? ⟨b,1,none⟩=some (.int .u8 t.st)/\W.cell? ⟨b,2,none⟩=some (.bool t.held)/\W.cell? ⟨b,3,none⟩=some (.int .i64 t.base)/\W.cell? ⟨b,4,none⟩=some (.int .i64 t.rank)/\W.cell? ⟨b,5,none⟩=some (.int .u8 t.wh)/\W.cell? ⟨b,6,none⟩=some (.int .u32 (t.ah:Nat))/\W.cell? ⟨b,7,none⟩=some (.int .u32 (t.av:Nat))/\W.cell? ⟨b,8,none⟩=some (.int .u32 (t.am:Nat))/\W.cell? ⟨b,9,none⟩=some (.int .i64 t.aw)/\W.cell? ⟨b,10,none⟩=some (.int .i64 l)/\W.cell? ⟨b,11,none⟩=some (.int .i64 (wr t.ans))/\W.cell? ⟨b,12,none⟩=some (.int .i64 t.last)/\W.cell? ⟨b,13,none⟩=some (.int .u32 t.val):=by
 refine⟨?_,?_,?_,?_,?_,?_,?_,?_,?_,?_,?_,?_,?_,?_⟩
 all_goals rw [cell_of h];rfl
theorem seenTask_any(h:St o0 w0 G w k){i:Nat}{t:Ta}(ht:k.ts i=some t):Calls Tryz.prog 43 #[.pointer (some ⟨G.kp,0,none⟩),.pointer (some ⟨G.tp i,0,none⟩)] w fun e w'=>e=.returned (.agg (sTC t).toArray)/\Below w.heap.size w w':=by
 rw [←tA_sTC]
 by_cases hs:t.st=2
 ·rw [if_pos hs]
  obtain⟨uh,us,uheld,ubase,urank,uwh,uah,uav,uam,uaw,uleft,uans,ulast,uval,uon,usince,uran⟩:=t
  obtain rfl:us=2:=hs
  have h1:=h.below (alloc_below w (.cells #[.int .u32 0,.int .u8 0,.bool false,.int .i64 0,.int .i64 0,.int .u8 0,.int .u32 0,.int .u32 0,.int .u32 0,.int .i64 0,.int .i64 0,.int .i64 0,.int .i64 0,.int .u32 0] 48))
  have T1:Two w ((w.alloc (.cells #[.int .u32 0,.int .u8 0,.bool false,.int .i64 0,.int .i64 0,.int .u8 0,.int .u32 0,.int .u32 0,.int .u32 0,.int .i64 0,.int .i64 0,.int .i64 0,.int .i64 0,.int .u32 0] 48)).alloc (.cells #[.int .u32 0,.int .u8 0,.bool false,.int .i64 0,.int .i64 0,.int .u8 0,.int .u32 0,.int .u32 0,.int .u32 0,.int .i64 0,.int .i64 0,.int .i64 0,.int .i64 0,.int .u32 0] 48)) w.heap.size #[.int .u32 0,.int .u8 0,.bool false,.int .i64 0,.int .i64 0,.int .u8 0,.int .u32 0,.int .u32 0,.int .u32 0,.int .i64 0,.int .i64 0,.int .i64 0,.int .i64 0,.int .u32 0] #[.int .u32 0,.int .u8 0,.bool false,.int .i64 0,.int .i64 0,.int .u8 0,.int .u32 0,.int .u32 0,.int .u32 0,.int .i64 0,.int .i64 0,.int .i64 0,.int .i64 0,.int .u32 0]:=Two.first w
  have T2:=T1.set1 (tA (⟨uh,2,uheld,ubase,urank,uwh,uah,uav,uam,uaw,uleft,uans,ulast,uval,uon,usince,uran⟩:Ta) 0)
  have HT1:=(show Hid _ from T1)
  have HT2:=(show Hid _ from T2)
  have b2:Below w.heap.size w (((w.alloc (.cells #[.int .u32 0,.int .u8 0,.bool false,.int .i64 0,.int .i64 0,.int .u8 0,.int .u32 0,.int .u32 0,.int .u32 0,.int .i64 0,.int .i64 0,.int .i64 0,.int .i64 0,.int .u32 0] 48)).alloc (.cells #[.int .u32 0,.int .u8 0,.bool false,.int .i64 0,.int .i64 0,.int .u8 0,.int .u32 0,.int .u32 0,.int .u32 0,.int .i64 0,.int .i64 0,.int .i64 0,.int .i64 0,.int .u32 0] 48)).setRow (w.heap.size+1) (tA (⟨uh,2,uheld,ubase,urank,uwh,uah,uav,uam,uaw,uleft,uans,ulast,uval,uon,usince,uran⟩:Ta) 0)):=T2.lo
  have h2:=h.below (b2)
  have HS2:Hid (St o0 w0 G (((w.alloc (.cells #[.int .u32 0,.int .u8 0,.bool false,.int .i64 0,.int .i64 0,.int .u8 0,.int .u32 0,.int .u32 0,.int .u32 0,.int .i64 0,.int .i64 0,.int .i64 0,.int .i64 0,.int .u32 0] 48)).alloc (.cells #[.int .u32 0,.int .u8 0,.bool false,.int .i64 0,.int .i64 0,.int .u8 0,.int .u32 0,.int .u32 0,.int .u32 0,.int .i64 0,.int .i64 0,.int .i64 0,.int .i64 0,.int .u32 0] 48)).setRow (w.heap.size+1) (tA (⟨uh,2,uheld,ubase,urank,uwh,uah,uav,uam,uaw,uleft,uans,ulast,uval,uon,usince,uran⟩:Ta) 0)) k):=h2
  have d0:=h1.d0 ht
  have d1:=h1.d1 ht
  have d2:=h1.d2 ht
  have d3:=h1.d3 ht
  have d4:=h1.d4 ht
  have d5:=h1.d5 ht
  have d6:=h1.d6 ht
  have d7:=h1.d7 ht
  have d8:=h1.d8 ht
  have d9:=h1.d9 ht
  have d10:=h1.d10 ht
  have d11:=h1.d11 ht
  have d12:=h1.d12 ht
  have d13:=h1.d13 ht
  have q1:=h2.d1 ht
  obtain⟨r0,r1,r2,r3,r4,r5,r6,r7,r8,r9,r10,r11,r12,r13⟩:=tA_cells T2.b1
  have HK:=(show Hid _ from ht)
  clear h h1 T1 T2 b2 h2 ht
  dsimp only at d0 d1 d2 d3 d4 d5 d6 d7 d8 d9 d11 d12 d13 q1 r0 r1 r2 r3 r4 r5 r6 r7 r8 r9 r11 r12 r13
  obtain⟨l,hl⟩:∃ l,lfS (⟨uh,2,uheld,ubase,urank,uwh,uah,uav,uam,uaw,uleft,uans,ulast,uval,uon,usince,uran⟩:Ta)=l:=⟨_,rfl⟩
  rw [hl]
  have HL:Hid (∀ wx,St o0 w0 G wx k->Calls Tryz.prog 83 #[.pointer (some ⟨G.kp,0,none⟩),.pointer (some ⟨G.tp i,0,none⟩)] wx fun e w'=>e=.returned (.int .i64 l)/\Below wx.heap.size wx w'):=fun wx hx=>hl ▸ leftOf_any hx HK.out
  clear hl
  go_enter Tryz.func43,Tryz.ntmps43
  go_wp2_with (first
   |(go_at_call 83;refine(HL.out _ HS2.out).mono ?_;rintro e w4 ⟨rfl,hb⟩;have T4:Hid (Two w w4 w.heap.size #[.int .u32 0,.int .u8 0,.bool false,.int .i64 0,.int .i64 0,.int .u8 0,.int .u32 0,.int .u32 0,.int .u32 0,.int .i64 0,.int .i64 0,.int .i64 0,.int .i64 0,.int .u32 0] (tA (⟨uh,2,uheld,ubase,urank,uwh,uah,uav,uam,uaw,uleft,uans,ulast,uval,uon,usince,uran⟩:Ta) 0)):=HT2.out.below hb;obtain⟨y0,y1,y2,y3,y4,y5,y6,y7,y8,y9,y10,y11,y12,y13⟩:=tA_cells T4.out.b1;dsimp only at y0 y1 y2 y3 y4 y5 y6 y7 y8 y9 y11 y12 y13;have f10:w4.frozen? ⟨w.heap.size+1,10,none⟩=false:=(by simp [World.frozen?,T4.out.b1]);clear hb)
   |(refine wpList_store_row rfl _ _ _ rfl w.heap.size (tA (⟨uh,2,uheld,ubase,urank,uwh,uah,uav,uam,uaw,uleft,uans,ulast,uval,uon,usince,uran⟩:Ta) l) rfl rfl 48 _ (T4.out.cell (.int .i64 l) 10).b0 (by kernel_rfl) rfl (by kernel_rfl) ?_)
   |(refine wpList_store_row rfl _ _ _ rfl (w.heap.size+1) (tA (⟨uh,2,uheld,ubase,urank,uwh,uah,uav,uam,uaw,uleft,uans,ulast,uval,uon,usince,uran⟩:Ta) 0) rfl rfl 48 _ HT1.out.b1 (by kernel_rfl) rfl (by kernel_rfl) ?_))
  have T5:=(T4.out.cell (.int .i64 l) 10).set0 (tA (⟨uh,2,uheld,ubase,urank,uwh,uah,uav,uam,uaw,uleft,uans,ulast,uval,uon,usince,uran⟩:Ta) l)
  refine bodyPost_ret (results_cell_row (g:=w.heap.size) rfl _ _ _ _ _ (d:=_) rfl T5.b0 Tryz.underlying48 rfl (by kernel_rfl)) rfl ?_
  exact⟨rfl,T5.lo⟩
 ·rw [if_neg hs]
  have h1:=h.below (alloc_below w (.cells #[.int .u32 0,.int .u8 0,.bool false,.int .i64 0,.int .i64 0,.int .u8 0,.int .u32 0,.int .u32 0,.int .u32 0,.int .i64 0,.int .i64 0,.int .i64 0,.int .i64 0,.int .u32 0] 48))
  have T1:Two w ((w.alloc (.cells #[.int .u32 0,.int .u8 0,.bool false,.int .i64 0,.int .i64 0,.int .u8 0,.int .u32 0,.int .u32 0,.int .u32 0,.int .i64 0,.int .i64 0,.int .i64 0,.int .i64 0,.int .u32 0] 48)).alloc (.cells #[.int .u32 0,.int .u8 0,.bool false,.int .i64 0,.int .i64 0,.int .u8 0,.int .u32 0,.int .u32 0,.int .u32 0,.int .i64 0,.int .i64 0,.int .i64 0,.int .i64 0,.int .u32 0] 48)) w.heap.size #[.int .u32 0,.int .u8 0,.bool false,.int .i64 0,.int .i64 0,.int .u8 0,.int .u32 0,.int .u32 0,.int .u32 0,.int .i64 0,.int .i64 0,.int .i64 0,.int .i64 0,.int .u32 0] #[.int .u32 0,.int .u8 0,.bool false,.int .i64 0,.int .i64 0,.int .u8 0,.int .u32 0,.int .u32 0,.int .u32 0,.int .i64 0,.int .i64 0,.int .i64 0,.int .i64 0,.int .u32 0]:=Two.first w
  have T2:=T1.set1 (tA t 0)
  have HT1:=(show Hid _ from T1)
  have HT2:=(show Hid _ from T2)
  have b2:Below w.heap.size w (((w.alloc (.cells #[.int .u32 0,.int .u8 0,.bool false,.int .i64 0,.int .i64 0,.int .u8 0,.int .u32 0,.int .u32 0,.int .u32 0,.int .i64 0,.int .i64 0,.int .i64 0,.int .i64 0,.int .u32 0] 48)).alloc (.cells #[.int .u32 0,.int .u8 0,.bool false,.int .i64 0,.int .i64 0,.int .u8 0,.int .u32 0,.int .u32 0,.int .u32 0,.int .i64 0,.int .i64 0,.int .i64 0,.int .i64 0,.int .u32 0] 48)).setRow (w.heap.size+1) (tA t 0)):=T2.lo
  have h2:=h.below (b2)
  have HS2:Hid (St o0 w0 G (((w.alloc (.cells #[.int .u32 0,.int .u8 0,.bool false,.int .i64 0,.int .i64 0,.int .u8 0,.int .u32 0,.int .u32 0,.int .u32 0,.int .i64 0,.int .i64 0,.int .i64 0,.int .i64 0,.int .u32 0] 48)).alloc (.cells #[.int .u32 0,.int .u8 0,.bool false,.int .i64 0,.int .i64 0,.int .u8 0,.int .u32 0,.int .u32 0,.int .u32 0,.int .i64 0,.int .i64 0,.int .i64 0,.int .i64 0,.int .u32 0] 48)).setRow (w.heap.size+1) (tA t 0)) k):=h2
  have d0:=h1.d0 ht
  have d1:=h1.d1 ht
  have d2:=h1.d2 ht
  have d3:=h1.d3 ht
  have d4:=h1.d4 ht
  have d5:=h1.d5 ht
  have d6:=h1.d6 ht
  have d7:=h1.d7 ht
  have d8:=h1.d8 ht
  have d9:=h1.d9 ht
  have d10:=h1.d10 ht
  have d11:=h1.d11 ht
  have d12:=h1.d12 ht
  have d13:=h1.d13 ht
  have q1:=h2.d1 ht
  obtain⟨r0,r1,r2,r3,r4,r5,r6,r7,r8,r9,r10,r11,r12,r13⟩:=tA_cells T2.b1
  have HK:Hid (k.ts i=some t):=ht
  clear h h1 T1 T2 b2 h2 ht
  have hs':(t.st == 2)=false:=by simpa using hs
  go_enter Tryz.func43,Tryz.ntmps43
  go_wp2_with (first
   |(refine wpList_store_row rfl _ _ _ rfl w.heap.size (tA t 0) rfl rfl 48 _ HT2.out.b0 (by kernel_rfl) rfl (by kernel_rfl) ?_)
   |(refine wpList_store_row rfl _ _ _ rfl (w.heap.size+1) (tA t 0) rfl rfl 48 _ HT1.out.b1 (by kernel_rfl) rfl (by kernel_rfl) ?_))
  have T5:=HT2.out.set0 (tA t 0)
  refine bodyPost_ret (results_cell_row (g:=w.heap.size) rfl _ _ _ _ _ (d:=_) rfl T5.b0 Tryz.underlying48 rfl (by kernel_rfl)) rfl ?_
  exact⟨rfl,T5.lo⟩
end
end Go.Proofs.YtbbdndfibjdcfaaGreat
namespace Go.Proofs.YtbbdndfibjdcfaaGreat
open Go Go.RowKit Go.Shelf
attribute [local go_sem] Oper.semAt_some
theorem infoTk:(Tryz.prog.info? 48).map (fun i=>(i.zero,i.size,i.bytes))=some (some (.agg zT),14,80):=by kernel_rfl
theorem cells_at{W:World}{g:Nat}{cs:Array Value}{ty:TypeId}(h:W.heap[g]?=some (.cells cs ty (0,0)))(j:Nat)(u:Value)(hu:cs.toList[j]?=some u):W.cell? ((⟨g,0,none⟩:Addr).add j)=some u:=by
 have e:(⟨g,0,none⟩:Addr).add j=⟨g,j,none⟩:=by simp [Addr.add];omega
 rw [e,cell_of h]
 simpa using hu
theorem ownsRow_hc{W W':World}{B:Nat}{t:TypeId}{s:Nat}{v:Value}{n:Nat}{xs:List Value}(h:W.ownsRow B t s v n xs)(hc:∀ (b:Nat) (cs:Array Value) (t:TypeId) (f:Nat×Nat),W.heap[b]?=some (.cells cs t f)->W'.heap[b]?=some (.cells cs t f)):W'.ownsRow B t s v n xs:=by
 refine⟨h.1,?_⟩
 rcases h.2 with hn |⟨g,cap,cur,hv,hb,hg,rest⟩
 ·exact .inl hn
 ·exact .inr ⟨g,cap,cur,hv,hb,hc _ _ _ _ hg,rest⟩
def sAt(k:Kn)(i:Nat):List Value:=match k.ts i with | some t=>sTC t | none=>[]
theorem sAt_some{k:Kn}{i:Nat}{t:Ta}(h:k.ts i=some t):sAt k i=sTC t:=by unfold sAt;rw [h]
theorem seen_all(k:Kn):∀ l:List Nat,(l.filter fun i=>(k.ts i).isSome).flatMap (sAt k)=(l.filterMap k.ts).flatMap sTC/\(l.filter fun i=>(k.ts i).isSome).length=(l.filterMap k.ts).length
 | []=>⟨rfl,rfl⟩
 | i :: l=>by
  obtain⟨a,b⟩:=seen_all k l
  cases h:k.ts i with
  | none=>rw [List.filter_cons_of_neg (by simp [h]),List.filterMap_cons_none h];exact⟨a,b⟩
  | some t =>
   rw [List.filter_cons_of_pos (by simp [h]),List.filterMap_cons_some h,List.flatMap_cons,List.flatMap_cons,List.length_cons,List.length_cons,a,b,sAt_some h]
   exact⟨rfl,rfl⟩
theorem step_append_in{F:Fence}{nn:Nat}{P:Program}{ops:Array Oper}{o:Oper}{a:Act}{w:World}{K:Act->World->Prop}{Q:Exit->Act->World->Prop}{X:Prop}(hgd:o.guard=none)(s x:Operand)(t:TypeId)
  (ho:o.op=.call { callee:=.builtin .append,args:=#[s,x],argTypes:=#[t,t] })
  (base:Nat) (e:TypeId) (i:TypeInfo) (z:Value) (size bytes:Nat) (ht:P.underlying t=some (.slice e)) (hi:P.info? e=some i) (hz:i.zero=some z)
  (hsize:i.size=size) (hby:i.bytes=bytes) (hzs:z.cells.size=size) (hsz:0 < size)
  (v:Value) (n:Nat) (xs:List Value) (hs:a.eval s=v) (hown:w.ownsRow base e size v n xs)
  (ad:Addr) (m c:Nat) (news:List Value) (hx:a.eval x=.slice (some ad) m c) (hl:news.length=m * size) (hnews:∀ j u,news[j]?=some u->w.cell? (ad.add j)=some u) (h1:∀ u∈news,u.oneCell'=true)
  (h63:n+m<=maxLen) (hbytes:(n+m) * bytes<=140737488355328) (hbase:base<=w.heap.size)
  (h:∀ v' w',w'.ownsRow base e size v' (n+m) (xs ++ news)->w.grownBy w' v.ownBlock->K (a.put o.dst v') w') :
  if Region.wanted o (yielded ops a.tmps)=true then Oper.wpIn F nn P o a w K Q else X:=by
 have hw:Region.wanted o (yielded ops a.tmps)=true:=by simp [Region.wanted,hgd]
 rw [if_pos hw]
 obtain⟨v',w',hr,h2,h3,h4⟩:=run_append_own (P:=P) w base t o.type e i z size bytes ht hi hz hsize hby hzs hsz v n xs hown ad m c news hl hnews h1 h63 hbytes hbase
 refine⟨by simp [Oper.about,ho,resolve,Target.leads,Sem.run_pure],?_⟩
 rw [Oper.semAt_plain F _ _ (by rw [ho];intro c hc';cases hc')]
 simp [execOp,ho,resolve,invoke,builtin,hs,hx,hr,Result.andThen]
 exact h v' w' h2 h3
theorem row_more{w W w4 w1:World}{z a n m sz n0:Nat}{tk tb te:TypeId}{p0 v v':Value}{xs ys:List Value}{tmp:Obj}(hte:tb≠te)(htk:tk≠te)(ha:a < z)
  (hb0:Boxed W z tk p0) (hbx:Boxed W (z+1) tb v) (hrow:W.ownsRow z te sz v n xs) (hB:Below z w W) (hb4:Below W.heap.size W w4)
  (hown':w1.ownsRow z te sz v' m ys) (hgrow:(w4.alloc tmp).grownBy w1 v.ownBlock) :
  (w1.cell? ⟨z+1,0,none⟩=some v/\w1.frozen? ⟨z+1,0,none⟩=false)/\KeepsFrom n0 W (w1.setCell ⟨z+1,0,none⟩ v')/\KA a W (w1.setCell ⟨z+1,0,none⟩ v')/\Boxed (w1.setCell ⟨z+1,0,none⟩ v') z tk p0/\Boxed (w1.setCell ⟨z+1,0,none⟩ v') (z+1) tb v'/\(w1.setCell ⟨z+1,0,none⟩ v').ownsRow z te sz v' m ys/\Below z w (w1.setCell ⟨z+1,0,none⟩ v')/\Below z w4 (w1.setCell ⟨z+1,0,none⟩ v'):=by
 have hl:=hb0.lt
 have hs:=hb4.size
 have hc4:∀ (b:Nat) (cs:Array Value) (t:TypeId) (f:Nat×Nat),W.heap[b]?=some (.cells cs t f)->w4.heap[b]?=some (.cells cs t f):=fun b cs t f hc=>(hb4.block b (at_lt hc)).trans hc
 have x4:Boxed w4 (z+1) tb v:=hc4 _ _ _ _ hbx
 have r4:=ownsRow_hc hrow hc4
 obtain⟨p1,p2,p3,p4,p5⟩:=x4.appended hte r4 (by omega) (Nat.le_succ z) hown' hgrow
 have z4:Boxed w4 z tk p0:=hc4 _ _ _ _ hb0
 have z1:Boxed w1 z tk p0:=(z4.alloc tmp).kept hgrow (z4.not_row htk r4)
 have hk:=p4.from n0
 refine⟨⟨p1.cell,p1.frozen⟩,⟨Nat.le_trans hs hk.size,fun b o hb hc ho=>hk.same b o hb ((hb4.block b (Array.getElem?_eq_some_iff.1 hc).1).trans hc) ho⟩,⟨Nat.le_trans hs hk.size,fun cs ty f hc=>(p5.block a ha).trans (hc4 _ _ _ _ hc)⟩,?_,p2,p3,(hB.trans (hb4.mono (Nat.le_of_lt hl))).trans p5,p5⟩
 show(w1.setCell ⟨z+1,0,none⟩ v').heap[z]?=_
 rw [Below.heap_setCell _ _ _ _ (show z≠z+1 by omega)]
 exact z1
section
variable {o0:Nat->Nat} {w0 w w':World} {G:Geo} {k:Kn}
theorem tasks_any(h:St o0 w0 G w k):Calls Tryz.prog 13 #[.pointer (some ⟨G.kp,0,none⟩)] w fun e w'=>∃ v,e=.returned v/\w'.ownsRow w.heap.size 48 14 v (tasksL k).length ((tasksL k).flatMap sTC)/\Below w.heap.size w w':=by
 obtain⟨i0,hi,hz0,hz1,hz2⟩:=info_parts' infoTk
 have HS:Hid (St o0 w0 G w k):=h
 have hth:=there_any (h.below (alloc_below w (.cells #[.pointer (some ⟨G.kp,0,none⟩)] 26))) h.slo.1.1
 refine(callsIn_wide (n:=3)).1 ?_
 refine callsIn_of_wp_marks Tryz.func13 rfl trivial ?_ rfl
 simp only [Tryz.ntmps13,List.size_toArray,List.length_cons,List.length_nil,Nat.reduceAdd,Nat.reduceSub,Array.replicate_succ,Array.replicate_zero,List.push_toArray,List.append_toArray,List.nil_append,List.cons_append]
 gi_wp2_with (first
  |(refine⟨trivial,?_⟩;gi_at_call 41;refine(callsIn_wide.2 hth).mono ?_;rintro e w' ⟨rfl,rfl⟩)
  |(refine⟨trivial,?_⟩;gi_at_call 42;refine(callsIn_wide.2 (tall_any _ _)).mono ?_;rintro e w' ⟨rfl,rfl⟩))
 obtain⟨z,hz⟩:∃ z,w.heap.size=z:=⟨_,rfl⟩
 obtain⟨W0,hW0⟩:∃ W0,((w.alloc (.cells #[.pointer (some ⟨G.kp,0,none⟩)] 26)).alloc (.cells #[.slice none 0 0] 43)).alloc (.cells #[.pointer (some ⟨G.kp,2,none⟩)] 162)=W0:=⟨_,rfl⟩
 have hB0:Below w.heap.size w W0:=by rw [←hW0];exact(((Below.refl _ w).alloc (Nat.le_refl _) _).alloc (by simp) _).alloc (by simp;omega) _
 have hS0:W0.heap.size=w.heap.size+1+1+1:=by rw [←hW0];simp
 have hC0:Boxed W0 w.heap.size 26 (.pointer (some ⟨G.kp,0,none⟩)):=by
  rw [←hW0]
  have h1:=alloc_at w (.cells #[.pointer (some ⟨G.kp,0,none⟩)] 26)
  have h2:=(alloc_below (w.alloc (.cells #[.pointer (some ⟨G.kp,0,none⟩)] 26)) (.cells #[.slice none 0 0] 43)).block w.heap.size (by rw [alloc_size];omega)
  have h3:=(alloc_below ((w.alloc (.cells #[.pointer (some ⟨G.kp,0,none⟩)] 26)).alloc (.cells #[.slice none 0 0] 43)) (.cells #[.pointer (some ⟨G.kp,2,none⟩)] 162)).block w.heap.size (by rw [alloc_size,alloc_size];omega)
  exact(h3.trans h2).trans h1
 have hC1:Boxed W0 (w.heap.size+1) 43 (.slice none 0 0):=by
  rw [←hW0]
  have h1:=alloc_at (w.alloc (.cells #[.pointer (some ⟨G.kp,0,none⟩)] 26)) (.cells #[.slice none 0 0] 43)
  have h3:=(alloc_below ((w.alloc (.cells #[.pointer (some ⟨G.kp,0,none⟩)] 26)).alloc (.cells #[.slice none 0 0] 43)) (.cells #[.pointer (some ⟨G.kp,2,none⟩)] 162)).block (w.heap.size+1) (by rw [alloc_size,alloc_size];omega)
  rw [alloc_size] at h1
  exact h3.trans h1
 have hC2:W0.cell? ⟨w.heap.size+1+1,0,none⟩=some (.pointer (some ⟨G.kp,2,none⟩)):=by
  rw [←hW0]
  have h1:=alloc_at ((w.alloc (.cells #[.pointer (some ⟨G.kp,0,none⟩)] 26)).alloc (.cells #[.slice none 0 0] 43)) (.cells #[.pointer (some ⟨G.kp,2,none⟩)] 162)
  rw [alloc_size,alloc_size] at h1
  rw [cell_of h1]
  rfl
 have hmx:Tryz.prog.follows .mixedOrders=true:=by kernel_rfl
 simp only [World.size_alloc,hW0]
 have h0:=h.below hB0
 have c30:=h0.c3
 have hA0:=h0.arrT
 have hklt:=h.klt
 have hta:=at_lt h.ta
 clear hW0 hth
 rw [hz] at hB0 hS0 hC0 hC1 hC2 hklt hta
 simp only [hz]
 have HZ:Hid (w.heap.size=z/\G.ta < z):=⟨hz,hta⟩
 refine wpIn_rangeFunc_ownG rfl (by omega) (gf:=82) (lb:=#[.pointer (some ⟨z+1+1,0,none⟩)]) rfl trivial (enters_of Tryz.func82 (by kernel_rfl) rfl)
  (tseq_stops _ (by omega) (z+1+1) G.kp G.ta G.tp _ W0 hC2 c30 hA0) KA.trans ka_b (Below.refl _ _) (fun _=>rfl)
  (fun pre W=>Boxed W z 26 (.pointer (some ⟨G.kp,0,none⟩))/\(∃ v,Boxed W (z+1) 43 v/\W.ownsRow z 48 14 v pre.length ((pre.map Subtype.val).flatMap (sAt k)))/\Below z w W)
  (fun _ _ _=>False)
  (ownFrom_of fun pre W W' ⟨i1,⟨v,i2,i3⟩,i4⟩ hc hb=>⟨hc _ _ _ _ i1,⟨v,hc _ _ _ _ i2,ownsRow_hc i3 hc⟩,i4.trans (hb z (by omega) (Nat.le_of_lt (at_lt i1)))⟩)
  (fun _ _ _ _ _ hs _ _=>hs)
  ⟨hC0,⟨_,hC1,World.ownsRow_nil _ _ _ _⟩,hB0⟩
  (fun x=>{ tmps:=#[(.pointer (some ⟨G.kp,0,none⟩)),(.pointer (some ⟨z,0,none⟩)),(.slice none 0 0),(.pointer (some ⟨z+1,0,none⟩)),(.pointer (some ⟨(G.tp x.1),0,none⟩)),(.pointer (some ⟨G.kp,0,none⟩)),(.bool true),(.bool false),(.pointer (some ⟨G.kp,0,none⟩)),(.pointer (some ⟨G.kp,0,none⟩)),(.pointer (some ⟨G.kp,2,none⟩)),(.func (.func 82) #[] #[.pointer (some ⟨z+1+1,0,none⟩)]),(.pointer (some ⟨(G.tp x.1),0,none⟩)),undef,undef,undef,undef,undef,undef,undef],defers:=[] }) ?assign ?body ?done ?stop
 case assign =>
  intro l x W K hK
  gi_wp2
  exact hK
 case body =>
  rintro l pre x W ⟨i1,⟨v,i2,i3⟩,i4⟩ hlt
  obtain⟨t,ht⟩:=Option.isSome_iff_exists.1 x.2.2
  have HSx:Hid (St o0 w0 G W k):=HS.out.below (HZ.out.1 ▸ i4)
  have c0:=i1.cell
  have c1:=i2.cell
  obtain⟨l,hl⟩:∃ l,(if t.st=2 then lfS t else 0)=l:=⟨_,rfl⟩
  have hst:sTC t=[.int .u32 (t.h:Nat),.int .u8 t.st,.bool t.held,.int .i64 t.base,.int .i64 t.rank,.int .u8 t.wh,.int .u32 (t.ah:Nat),.int .u32 (t.av:Nat),.int .u32 (t.am:Nat),.int .i64 t.aw,.int .i64 l,.int .i64 (wr t.ans),.int .i64 t.last,.int .u32 t.val]:=by unfold sTC;rw [hl]
  have HI:Hid (Boxed W z 26 (.pointer (some ⟨G.kp,0,none⟩))/\Boxed W (z+1) 43 v/\W.ownsRow z 48 14 v pre.length ((pre.map Subtype.val).flatMap (sAt k))/\Below z w W):=⟨i1,i2,i3,i4⟩
  have HN:Hid (((pre ++ [x]).map Subtype.val).flatMap (sAt k)=(pre.map Subtype.val).flatMap (sAt k) ++ [.int .u32 (t.h:Nat),.int .u8 t.st,.bool t.held,.int .i64 t.base,.int .i64 t.rank,.int .u8 t.wh,.int .u32 (t.ah:Nat),.int .u32 (t.av:Nat),.int .u32 (t.am:Nat),.int .i64 t.aw,.int .i64 l,.int .i64 (wr t.ans),.int .i64 t.last,.int .u32 t.val]):=by
   show _=_
   rw [List.map_append,List.flatMap_append,List.map_cons,List.map_nil,List.flatMap_cons,List.flatMap_nil,List.append_nil,sAt_some ht,hst]
  have HC:Hid (Calls Tryz.prog 43 #[.pointer (some ⟨G.kp,0,none⟩),.pointer (some ⟨G.tp x.1,0,none⟩)] W.drew fun e w'=>e=.returned (.agg #[.int .u32 (t.h:Nat),.int .u8 t.st,.bool t.held,.int .i64 t.base,.int .i64 t.rank,.int .u8 t.wh,.int .u32 (t.ah:Nat),.int .u32 (t.av:Nat),.int .u32 (t.am:Nat),.int .i64 t.aw,.int .i64 l,.int .i64 (wr t.ans),.int .i64 t.last,.int .u32 t.val])/\Below W.drew.heap.size W.drew w'):=by
   have:=seenTask_any HSx.out.drew ht
   rw [hst] at this
   exact this
  have HY:Hid (∀ w4,Below W.heap.size W w4->w4.cell? ⟨z,0,none⟩=some (.pointer (some ⟨G.kp,0,none⟩))/\w4.cell? ⟨z+1,0,none⟩=some v/\(w4.alloc (.cells #[.int .u32 (t.h:Nat),.int .u8 t.st,.bool t.held,.int .i64 t.base,.int .i64 t.rank,.int .u8 t.wh,.int .u32 (t.ah:Nat),.int .u32 (t.av:Nat),.int .u32 (t.am:Nat),.int .i64 t.aw,.int .i64 l,.int .i64 (wr t.ans),.int .i64 t.last,.int .u32 t.val] 48)).cell? ⟨z,0,none⟩=some (.pointer (some ⟨G.kp,0,none⟩))/\(w4.alloc (.cells #[.int .u32 (t.h:Nat),.int .u8 t.st,.bool t.held,.int .i64 t.base,.int .i64 t.rank,.int .u8 t.wh,.int .u32 (t.ah:Nat),.int .u32 (t.av:Nat),.int .u32 (t.am:Nat),.int .i64 t.aw,.int .i64 l,.int .i64 (wr t.ans),.int .i64 t.last,.int .u32 t.val] 48)).cell? ⟨z+1,0,none⟩=some v):=fun w4 hb=>by
   have y0:=(hb.cell (p:=⟨z,0,none⟩) (cell_lt c0)).trans c0
   have y1:=(hb.cell (p:=⟨z+1,0,none⟩) (cell_lt c1)).trans c1
   have ba:=alloc_below w4 (.cells #[.int .u32 (t.h:Nat),.int .u8 t.st,.bool t.held,.int .i64 t.base,.int .i64 t.rank,.int .u8 t.wh,.int .u32 (t.ah:Nat),.int .u32 (t.av:Nat),.int .u32 (t.am:Nat),.int .i64 t.aw,.int .i64 l,.int .i64 (wr t.ans),.int .i64 t.last,.int .u32 t.val] 48)
   exact⟨y0,y1,(ba.cell (p:=⟨z,0,none⟩) (cell_lt y0)).trans y0,(ba.cell (p:=⟨z+1,0,none⟩) (cell_lt y1)).trans y1⟩
  clear i1 i2 i3 i4 ht hst hl h0 c30 hA0
  gi_wp2
  refine Tm.region_round (by intro i o ho c;rcases i with _ | _ | _ | _ | _ | _ | _ | i <;> (try (cases ho;exact(fun h=>by cases h)));simp at ho) hmx ?_
  refine wpAnyIn_take (i:=2) (v:=?vt2) rfl rfl (by kernel_rfl) (by kernel_rfl) (by kernel_rfl) (fun _ _ _ h=>h) ⟨Or.inl ⟨by rfl,?hyt2⟩,fun _=>rfl⟩ ?restt2
  case hyt2=>(intro w;go_simp;try with_reducible rfl)
  refine wpAnyIn_ready (rs:=[0,1]) (by kernel_rfl) (by simp) ?_
  refine AllReadyIn.cons rfl (fun K hK=>?_) ?_
  ·go_simp
   refine hK _ _ ?_
   clear hK K
   refine wpAnyIn_ready (rs:=[1]) (by kernel_rfl) (by simp) ?_
   refine AllReadyIn.cons rfl (fun K hK=>?_) AllReadyIn.nil
   go_simp
   refine hK _ _ ?_
   clear hK K
   refine wpAnyIn_ready (rs:=[3]) (by kernel_rfl) (by simp) ?_
   refine AllReadyIn.cons rfl (fun K hK=>?_) AllReadyIn.nil
   go_simp;refine⟨trivial,?_⟩;gi_at_call 43;refine(callsIn_wide.2 HC.out).mono ?_;rintro e w4 ⟨rfl,hb4⟩;have B4:Hid (Below W.heap.size W w4):=(below_drewN W 1).trans hb4;obtain⟨y0,y1,y2,y3⟩:=HY.out _ B4.out;clear hb4;refine hK _ _ ?_;clear hK K
   refine wpAnyIn_ready (rs:=[4]) (by kernel_rfl) (by simp) ?_
   refine AllReadyIn.cons rfl (fun K hK=>?_) AllReadyIn.nil
   go_simp
   refine hK _ _ ?_
   clear hK K
   refine wpAnyIn_ready (rs:=[5]) (by kernel_rfl) (by simp) ?_
   refine AllReadyIn.cons rfl (fun K hK=>?_) AllReadyIn.nil
   refine step_append_in rfl (.tmp 13) (.tmp 17) 43 rfl z 48 i0 (.agg zT) 14 80 Tryz.underlying43 hi hz0 hz1 hz2 rfl (by decide) v pre.length _ rfl (((ownsRow_hc HI.out.2.2.1 fun b cs t f hc=>(B4.out.block b (at_lt hc)).trans hc)).alloc _) ⟨w4.heap.size,0,none⟩ 1 1 [.int .u32 (t.h:Nat),.int .u8 t.st,.bool t.held,.int .i64 t.base,.int .i64 t.rank,.int .u8 t.wh,.int .u32 (t.ah:Nat),.int .u32 (t.av:Nat),.int .u32 (t.am:Nat),.int .i64 t.aw,.int .i64 l,.int .i64 (wr t.ans),.int .i64 t.last,.int .u32 t.val] rfl rfl (cells_at (alloc_at w4 _)) (by simp [Value.oneCell']) (by simp only [maxLen];omega) (by omega) (by have:=HI.out.1.lt;have:=B4.out.size;rw [alloc_size];omega) ?_;intro v' w1 hown' hgrow;obtain⟨g',cap',rfl⟩:=ownsRow_succ hown';obtain⟨⟨x1,x2⟩,hkf,hka,ib0,ibx,irow,ibel,_⟩:=row_more (n0:=W0.heap.size) (tk:=26) (by decide) (by decide) HZ.out.2 HI.out.1 HI.out.2.1 HI.out.2.2.1 HI.out.2.2.2 B4.out hown' hgrow;have HF:Hid (KeepsFrom W0.heap.size W (w1.setCell ⟨z+1,0,none⟩ (.slice (some ⟨g',0,none⟩) (pre.length+1) cap'))/\KA G.ta W (w1.setCell ⟨z+1,0,none⟩ (.slice (some ⟨g',0,none⟩) (pre.length+1) cap'))/\Boxed (w1.setCell ⟨z+1,0,none⟩ (.slice (some ⟨g',0,none⟩) (pre.length+1) cap')) z 26 (.pointer (some ⟨G.kp,0,none⟩))/\(∃ u,Boxed (w1.setCell ⟨z+1,0,none⟩ (.slice (some ⟨g',0,none⟩) (pre.length+1) cap')) (z+1) 43 u/\(w1.setCell ⟨z+1,0,none⟩ (.slice (some ⟨g',0,none⟩) (pre.length+1) cap')).ownsRow z 48 14 u (pre ++ [x]).length (((pre ++ [x]).map Subtype.val).flatMap (sAt k)))/\Below z w (w1.setCell ⟨z+1,0,none⟩ (.slice (some ⟨g',0,none⟩) (pre.length+1) cap'))):=⟨hkf,hka,ib0,⟨_,ibx,(by rw [HN.out,List.length_append];exact irow)⟩,ibel⟩;clear hown' hgrow hkf hka ib0 ibx irow ibel;refine hK _ _ ?_;clear hK K
   refine wpAnyIn_ready (rs:=[6]) (by kernel_rfl) (by simp) ?_
   refine AllReadyIn.cons rfl (fun K hK=>?_) AllReadyIn.nil
   go_simp
   refine hK _ _ ?_
   clear hK K
   refine wpAnyIn_done (by kernel_rfl) ?_ _
   exact HF.out
  refine AllReadyIn.cons rfl (fun K hK=>?_) AllReadyIn.nil
  go_simp
  refine hK _ _ ?_
  clear hK K
  refine wpAnyIn_ready (rs:=[0,3]) (by kernel_rfl) (by simp) ?_
  refine AllReadyIn.cons rfl (fun K hK=>?_) ?_
  ·go_simp
   refine hK _ _ ?_
   clear hK K
   refine wpAnyIn_ready (rs:=[3]) (by kernel_rfl) (by simp) ?_
   refine AllReadyIn.cons rfl (fun K hK=>?_) AllReadyIn.nil
   go_simp;refine⟨trivial,?_⟩;gi_at_call 43;refine(callsIn_wide.2 HC.out).mono ?_;rintro e w4 ⟨rfl,hb4⟩;have B4:Hid (Below W.heap.size W w4):=(below_drewN W 1).trans hb4;obtain⟨y0,y1,y2,y3⟩:=HY.out _ B4.out;clear hb4;refine hK _ _ ?_;clear hK K
   refine wpAnyIn_ready (rs:=[4]) (by kernel_rfl) (by simp) ?_
   refine AllReadyIn.cons rfl (fun K hK=>?_) AllReadyIn.nil
   go_simp
   refine hK _ _ ?_
   clear hK K
   refine wpAnyIn_ready (rs:=[5]) (by kernel_rfl) (by simp) ?_
   refine AllReadyIn.cons rfl (fun K hK=>?_) AllReadyIn.nil
   refine step_append_in rfl (.tmp 13) (.tmp 17) 43 rfl z 48 i0 (.agg zT) 14 80 Tryz.underlying43 hi hz0 hz1 hz2 rfl (by decide) v pre.length _ rfl (((ownsRow_hc HI.out.2.2.1 fun b cs t f hc=>(B4.out.block b (at_lt hc)).trans hc)).alloc _) ⟨w4.heap.size,0,none⟩ 1 1 [.int .u32 (t.h:Nat),.int .u8 t.st,.bool t.held,.int .i64 t.base,.int .i64 t.rank,.int .u8 t.wh,.int .u32 (t.ah:Nat),.int .u32 (t.av:Nat),.int .u32 (t.am:Nat),.int .i64 t.aw,.int .i64 l,.int .i64 (wr t.ans),.int .i64 t.last,.int .u32 t.val] rfl rfl (cells_at (alloc_at w4 _)) (by simp [Value.oneCell']) (by simp only [maxLen];omega) (by omega) (by have:=HI.out.1.lt;have:=B4.out.size;rw [alloc_size];omega) ?_;intro v' w1 hown' hgrow;obtain⟨g',cap',rfl⟩:=ownsRow_succ hown';obtain⟨⟨x1,x2⟩,hkf,hka,ib0,ibx,irow,ibel,_⟩:=row_more (n0:=W0.heap.size) (tk:=26) (by decide) (by decide) HZ.out.2 HI.out.1 HI.out.2.1 HI.out.2.2.1 HI.out.2.2.2 B4.out hown' hgrow;have HF:Hid (KeepsFrom W0.heap.size W (w1.setCell ⟨z+1,0,none⟩ (.slice (some ⟨g',0,none⟩) (pre.length+1) cap'))/\KA G.ta W (w1.setCell ⟨z+1,0,none⟩ (.slice (some ⟨g',0,none⟩) (pre.length+1) cap'))/\Boxed (w1.setCell ⟨z+1,0,none⟩ (.slice (some ⟨g',0,none⟩) (pre.length+1) cap')) z 26 (.pointer (some ⟨G.kp,0,none⟩))/\(∃ u,Boxed (w1.setCell ⟨z+1,0,none⟩ (.slice (some ⟨g',0,none⟩) (pre.length+1) cap')) (z+1) 43 u/\(w1.setCell ⟨z+1,0,none⟩ (.slice (some ⟨g',0,none⟩) (pre.length+1) cap')).ownsRow z 48 14 u (pre ++ [x]).length (((pre ++ [x]).map Subtype.val).flatMap (sAt k)))/\Below z w (w1.setCell ⟨z+1,0,none⟩ (.slice (some ⟨g',0,none⟩) (pre.length+1) cap'))):=⟨hkf,hka,ib0,⟨_,ibx,(by rw [HN.out,List.length_append];exact irow)⟩,ibel⟩;clear hown' hgrow hkf hka ib0 ibx irow ibel;refine hK _ _ ?_;clear hK K
   refine wpAnyIn_ready (rs:=[6]) (by kernel_rfl) (by simp) ?_
   refine AllReadyIn.cons rfl (fun K hK=>?_) AllReadyIn.nil
   go_simp
   refine hK _ _ ?_
   clear hK K
   refine wpAnyIn_done (by kernel_rfl) ?_ _
   exact HF.out
  refine AllReadyIn.cons rfl (fun K hK=>?_) AllReadyIn.nil
  go_simp;refine⟨trivial,?_⟩;gi_at_call 43;refine(callsIn_wide.2 HC.out).mono ?_;rintro e w4 ⟨rfl,hb4⟩;have B4:Hid (Below W.heap.size W w4):=(below_drewN W 1).trans hb4;obtain⟨y0,y1,y2,y3⟩:=HY.out _ B4.out;clear hb4;refine hK _ _ ?_;clear hK K
  refine wpAnyIn_ready (rs:=[0,4]) (by kernel_rfl) (by simp) ?_
  refine AllReadyIn.cons rfl (fun K hK=>?_) ?_
  ·go_simp
   refine hK _ _ ?_
   clear hK K
   refine wpAnyIn_ready (rs:=[4]) (by kernel_rfl) (by simp) ?_
   refine AllReadyIn.cons rfl (fun K hK=>?_) AllReadyIn.nil
   go_simp
   refine hK _ _ ?_
   clear hK K
   refine wpAnyIn_ready (rs:=[5]) (by kernel_rfl) (by simp) ?_
   refine AllReadyIn.cons rfl (fun K hK=>?_) AllReadyIn.nil
   refine step_append_in rfl (.tmp 13) (.tmp 17) 43 rfl z 48 i0 (.agg zT) 14 80 Tryz.underlying43 hi hz0 hz1 hz2 rfl (by decide) v pre.length _ rfl (((ownsRow_hc HI.out.2.2.1 fun b cs t f hc=>(B4.out.block b (at_lt hc)).trans hc)).alloc _) ⟨w4.heap.size,0,none⟩ 1 1 [.int .u32 (t.h:Nat),.int .u8 t.st,.bool t.held,.int .i64 t.base,.int .i64 t.rank,.int .u8 t.wh,.int .u32 (t.ah:Nat),.int .u32 (t.av:Nat),.int .u32 (t.am:Nat),.int .i64 t.aw,.int .i64 l,.int .i64 (wr t.ans),.int .i64 t.last,.int .u32 t.val] rfl rfl (cells_at (alloc_at w4 _)) (by simp [Value.oneCell']) (by simp only [maxLen];omega) (by omega) (by have:=HI.out.1.lt;have:=B4.out.size;rw [alloc_size];omega) ?_;intro v' w1 hown' hgrow;obtain⟨g',cap',rfl⟩:=ownsRow_succ hown';obtain⟨⟨x1,x2⟩,hkf,hka,ib0,ibx,irow,ibel,_⟩:=row_more (n0:=W0.heap.size) (tk:=26) (by decide) (by decide) HZ.out.2 HI.out.1 HI.out.2.1 HI.out.2.2.1 HI.out.2.2.2 B4.out hown' hgrow;have HF:Hid (KeepsFrom W0.heap.size W (w1.setCell ⟨z+1,0,none⟩ (.slice (some ⟨g',0,none⟩) (pre.length+1) cap'))/\KA G.ta W (w1.setCell ⟨z+1,0,none⟩ (.slice (some ⟨g',0,none⟩) (pre.length+1) cap'))/\Boxed (w1.setCell ⟨z+1,0,none⟩ (.slice (some ⟨g',0,none⟩) (pre.length+1) cap')) z 26 (.pointer (some ⟨G.kp,0,none⟩))/\(∃ u,Boxed (w1.setCell ⟨z+1,0,none⟩ (.slice (some ⟨g',0,none⟩) (pre.length+1) cap')) (z+1) 43 u/\(w1.setCell ⟨z+1,0,none⟩ (.slice (some ⟨g',0,none⟩) (pre.length+1) cap')).ownsRow z 48 14 u (pre ++ [x]).length (((pre ++ [x]).map Subtype.val).flatMap (sAt k)))/\Below z w (w1.setCell ⟨z+1,0,none⟩ (.slice (some ⟨g',0,none⟩) (pre.length+1) cap'))):=⟨hkf,hka,ib0,⟨_,ibx,(by rw [HN.out,List.length_append];exact irow)⟩,ibel⟩;clear hown' hgrow hkf hka ib0 ibx irow ibel;refine hK _ _ ?_;clear hK K
   refine wpAnyIn_ready (rs:=[6]) (by kernel_rfl) (by simp) ?_
   refine AllReadyIn.cons rfl (fun K hK=>?_) AllReadyIn.nil
   go_simp
   refine hK _ _ ?_
   clear hK K
   refine wpAnyIn_done (by kernel_rfl) ?_ _
   exact HF.out
  refine AllReadyIn.cons rfl (fun K hK=>?_) AllReadyIn.nil
  go_simp
  refine hK _ _ ?_
  clear hK K
  refine wpAnyIn_ready (rs:=[0]) (by kernel_rfl) (by simp) ?_
  refine AllReadyIn.cons rfl (fun K hK=>?_) AllReadyIn.nil
  go_simp
  refine hK _ _ ?_
  clear hK K
  refine wpAnyIn_ready (rs:=[5]) (by kernel_rfl) (by simp) ?_
  refine AllReadyIn.cons rfl (fun K hK=>?_) AllReadyIn.nil
  refine step_append_in rfl (.tmp 13) (.tmp 17) 43 rfl z 48 i0 (.agg zT) 14 80 Tryz.underlying43 hi hz0 hz1 hz2 rfl (by decide) v pre.length _ rfl (((ownsRow_hc HI.out.2.2.1 fun b cs t f hc=>(B4.out.block b (at_lt hc)).trans hc)).alloc _) ⟨w4.heap.size,0,none⟩ 1 1 [.int .u32 (t.h:Nat),.int .u8 t.st,.bool t.held,.int .i64 t.base,.int .i64 t.rank,.int .u8 t.wh,.int .u32 (t.ah:Nat),.int .u32 (t.av:Nat),.int .u32 (t.am:Nat),.int .i64 t.aw,.int .i64 l,.int .i64 (wr t.ans),.int .i64 t.last,.int .u32 t.val] rfl rfl (cells_at (alloc_at w4 _)) (by simp [Value.oneCell']) (by simp only [maxLen];omega) (by omega) (by have:=HI.out.1.lt;have:=B4.out.size;rw [alloc_size];omega) ?_;intro v' w1 hown' hgrow;obtain⟨g',cap',rfl⟩:=ownsRow_succ hown';obtain⟨⟨x1,x2⟩,hkf,hka,ib0,ibx,irow,ibel,_⟩:=row_more (n0:=W0.heap.size) (tk:=26) (by decide) (by decide) HZ.out.2 HI.out.1 HI.out.2.1 HI.out.2.2.1 HI.out.2.2.2 B4.out hown' hgrow;have HF:Hid (KeepsFrom W0.heap.size W (w1.setCell ⟨z+1,0,none⟩ (.slice (some ⟨g',0,none⟩) (pre.length+1) cap'))/\KA G.ta W (w1.setCell ⟨z+1,0,none⟩ (.slice (some ⟨g',0,none⟩) (pre.length+1) cap'))/\Boxed (w1.setCell ⟨z+1,0,none⟩ (.slice (some ⟨g',0,none⟩) (pre.length+1) cap')) z 26 (.pointer (some ⟨G.kp,0,none⟩))/\(∃ u,Boxed (w1.setCell ⟨z+1,0,none⟩ (.slice (some ⟨g',0,none⟩) (pre.length+1) cap')) (z+1) 43 u/\(w1.setCell ⟨z+1,0,none⟩ (.slice (some ⟨g',0,none⟩) (pre.length+1) cap')).ownsRow z 48 14 u (pre ++ [x]).length (((pre ++ [x]).map Subtype.val).flatMap (sAt k)))/\Below z w (w1.setCell ⟨z+1,0,none⟩ (.slice (some ⟨g',0,none⟩) (pre.length+1) cap'))):=⟨hkf,hka,ib0,⟨_,ibx,(by rw [HN.out,List.length_append];exact irow)⟩,ibel⟩;clear hown' hgrow hkf hka ib0 ibx irow ibel;refine hK _ _ ?_;clear hK K
  refine wpAnyIn_ready (rs:=[6]) (by kernel_rfl) (by simp) ?_
  refine AllReadyIn.cons rfl (fun K hK=>?_) AllReadyIn.nil
  go_simp
  refine hK _ _ ?_
  clear hK K
  refine wpAnyIn_done (by kernel_rfl) ?_ _
  exact HF.out
 case done =>
  rintro D ys W hD hys ⟨i1,⟨v,i2,i3⟩,i4⟩ hK
  have c1:=i2.cell
  obtain⟨q1,q2⟩:=seen_all k (List.range 16)
  have hl:ys.length=(tasksL k).length:=by rw [←List.length_map (f:=Subtype.val),hys];exact q2
  rw [hys,hl] at i3
  have i3':W.ownsRow z 48 14 v (tasksL k).length ((tasksL k).flatMap sTC):=by
   have e:((List.range 16).filter fun i=>(k.ts i).isSome).flatMap (sAt k)=(tasksL k).flatMap sTC:=q1
   rw [←e];exact i3
  have HD:Hid (W.ownsRow z 48 14 v (tasksL k).length ((tasksL k).flatMap sTC)/\Below z w W/\z+1 < W.heap.size):=⟨i3',i4,i2.lt⟩
  clear i1 i2 i3 i3' i4 q1 q2 hl hys
  gi_wp2
  refine⟨by simp,.inl ⟨_,_,rfl,run_takeDeferred hK,?_⟩⟩
  refine⟨_,results_tmp rfl _ _ _,v,rfl,?_,?_⟩
  ·rw [HZ.out.1];exact ownsRow_putObj HD.out.1 _ hK rfl
  ·rw [HZ.out.1]
   exact HD.out.2.1.trans (belowK_b (w:=W0) (n₀:=z) (by omega) W D _ _ (by omega) hK rfl rfl)
 case stop =>
  rintro D c pre W _ _ h _
  exact h.elim
end
end Go.Proofs.YtbbdndfibjdcfaaGreat
namespace Go.Proofs.YtbbdndfibjdcfaaGreat
open Go Go.RowKit Go.Shelf
attribute [local go_sem] Oper.semAt_some
end Go.Proofs.YtbbdndfibjdcfaaGreat
namespace Go.Proofs.YtbbdndfibjdcfaaGreat
open Go Go.RowKit
def PutX(o0:Nat->Nat)(w0:World)(G:Geo)(w:World)(k:Kn)(o b:Nat):Prop:=∃ own,KX 5 own G w k/\own G.oa=5/\w.heap[G.oa]?=some (.cells ((oaC G k.os).setIfInBounds o (.pointer (some ⟨b,0,none⟩))) 77 (0,0))/\Ext o0 own w0 w
def PutY(o0:Nat->Nat)(w0:World)(G:Geo)(w:World)(k:Kn)(o b n m:Nat):Prop:=∃ own,KX 5 own G w k/\own G.oa=5/\w.heap[G.oa]?=some (.cells ((oaC G k.os).setIfInBounds o (.pointer (some ⟨b,0,none⟩))) 77 (0,0))/\Ext o0 own w0 w/\∀ x,n<=x->x < m->own x=0
def Geo.setX(G:Geo)(o b p f g q:Nat):Geo:={ G with xp:=fun j=>if j=o then b else G.xp j,op:=fun j=>if j=o then p else G.op j,of:=fun j=>if j=o then f else G.of j,og:=fun j=>if j=o then g else G.og j,qp:=fun j=>if j=o then q else G.qp j }
theorem onP_put(G:Geo){o b p f g q:Nat}{z:Int}(h:z≠(o:Int)):onP (G.setX o b p f g q) z=onP G z:=by
 unfold onP
 split
 ·rename_i h0
  have:z.toNat≠o:=by omega
  simp [Geo.setX,this]
 ·rfl
theorem tC_put(G:Geo){o b p f g q i:Nat}{t:Ta}(h:t.on≠(o:Int)):tC (G.setX o b p f g q) i t=tC G i t:=by
 unfold tC
 rw [onP_put G h]
theorem oaC_put(G:Geo)(os:Nat->Option Th){o:Nat}(ho:o < 32)(hs:G.sh o=true)(b p f g q:Nat)(x:Th):oaC (G.setX o b p f g q) (set1 os o (some x))=(oaC G os).setIfInBounds o (.pointer (some ⟨b,0,none⟩)):=by
 unfold oaC
 apply Array.ext'
 simp only [List.setIfInBounds_toArray]
 apply List.ext_getElem?
 intro j
 by_cases e:j=o
 ·subst e
  rw [List.getElem?_set_self (by simpa using ho),List.getElem?_map,List.getElem?_range ho]
  simp [oPt,set1_at,Geo.setX,hs]
 ·rw [List.getElem?_set_ne (fun c=>e c.symm),List.getElem?_map,List.getElem?_map]
  rcases Nat.lt_or_ge j 32 with c | c
  ·rw [List.getElem?_range c]
   simp only [Option.map_some]
   congr 1
   unfold oPt
   rw [set1_ne _ _ e]
   simp [Geo.setX,e]
  ·rw [List.getElem?_eq_none (by simpa using c)];rfl
theorem kt_g{w:World}{p f g g':Nat}{T:Ob.Sx}(h:Ob.KT w p f g T)(hk:¬ (T.k=3∨T.k=5)):Ob.KT w p f g' T:=by
 cases h with
 | sem h=>exact .sem h
 | mtx h=>exact .mtx h
 | row h=>exact absurd (Or.inl rfl) hk
 | flg h=>exact .flg h
 | pool h=>exact absurd (Or.inr rfl) hk
 | ala h=>exact .ala h
section
variable {o0 own0:Nat->Nat} {w0 wa w w':World} {G:Geo} {k:Kn}
theorem PutX.z{o b n:Nat}(h:PutX own0 wa G w k o b)(hn:∀ x,n<=x->own0 x=0)(hbl:b < wa.heap.size)(hnb:n<=b)(hX:Ext o0 own0 w0 wa)(hbw:w0.heap.size<=n)(hb:Hd.Buts [b] w w'):PutY o0 w0 G w' k o b n wa.heap.size:=by
 obtain⟨own,h,h1,h2,hE⟩:=h
 have hob:own b=0:=hE.zero b hbl (hn b hnb)
 have hX2:=hX.trans hE
 have hoff:Off own 0 w w':=off_hd hb (by simpa using hob)
 have hne:G.oa≠b:=fun e=>by rw [e] at h1;omega
 have hta:=(hb.block G.oa (at_lt h2) (by simpa using hne)).trans h2
 have hbs:=hE.size
 have hsz:=hX2.size
 exact⟨_,h.off0 hoff,(ext_cl (Cl.of hta) (at_lt h2)).trans h1,hta,⟨hb.os.trans hX2.os,hb.tape.trans hX2.tape,hb.output.trans hX2.output,Nat.le_trans hsz hb.size,fun x hx h0=>ext_0 (by omega) (hX2.zero x hx h0),fun x hx h0=>(hb.block x (by omega) (by simp;omega)).trans (hX2.out x hx h0)⟩,fun x hx hm=>ext_0 (by omega) (hE.zero x hm (hn x hx))⟩
theorem PutY.done{o b p f g q q0 n m:Nat}{bs:List Nat}{T:Ob.Sx}{hh:Nat}(h:PutY o0 w0 G w k o b n m)(hbw:w0.heap.size<=n)(ho:o < 32)(hno:k.os o=none)(hs:G.sh o=true)(hon:∀ i t,k.ts i=some t->t.on≠(o:Int))
  (hT:Ob.KT w p f g T) (hg:¬ (T.k=3∨T.k=5)->g=f) (hQ:Wt.Que (fun x=>q0<=x) w q bs []) (hc:w.heap[b]?=some (.cells #[.int .u32 (hh:Nat),.int .i64 (o:Nat),.int .u8 T.k,.int .u32 T.a,.int .u32 T.b,ptr p,ptr q] 87 (0,0)))
  (hw:(0<=T.a/\T.a<=4294967295)/\0<=T.b/\T.b<=4294967295) (r1:n<=p/\n<=f/\n<=g) (r2:p < q0/\f < q0/\g < q0) (r3:q < b) (r4:∀ x∈bs,x < b) (r5:b < m):St o0 w0 (G.setX o b p f g q) w { k with os:=set1 k.os o (some ⟨hh,T,[]⟩) }:=by
 obtain⟨own,h,h1,h2,hX2,hz⟩:=h
 obtain⟨k1,k2,k3⟩:=KT.cl hT
 have hqn:q0<=q:=hQ.lo
 obtain⟨own2,ho2⟩:∃ own2:Nat->Nat,own2=fun x=>if x=b then 30+o else if x=p∨(T.k≠6/\(x=f∨x=g)) then 70+o else if x=q∨x∈bs then 110+o else own x:=⟨_,rfl⟩
 have zb:own b=0:=hz b (by omega) r5
 have hin:∀ x,own x≠0->x≠b/\¬ (x=p∨(T.k≠6/\(x=f∨x=g)))/\¬ (x=q∨x∈bs):=fun x hx=>by
  refine⟨?_,?_,?_⟩
  ·rintro rfl;exact hx zb
  ·rintro (rfl |⟨_,rfl | rfl⟩)
   ·exact hx (hz _ r1.1 (by omega))
   ·exact hx (hz _ r1.2.1 (by omega))
   ·exact hx (hz _ r1.2.2 (by omega))
  ·rintro (rfl | c)
   ·exact hx (hz _ (by omega) (by omega))
   ·have e1:q0<=x:=hQ.los x c
    have e2:=r4 x c
    exact hx (hz x (by omega) (by omega))
 have hne:∀ x s,own x=s->s≠0->own2 x=s:=fun x s e h0=>by
  obtain⟨a1,a2,a3⟩:=hin x (by omega)
  rw [ho2];simp only
  rw [if_neg a1,if_neg a2,if_neg a3];exact e
 have sb:own2 b=30+o:=by rw [ho2];simp
 have sp:own2 p=70+o:=by rw [ho2];simp only;rw [if_neg (by omega),if_pos (Or.inl trivial)]
 have sf:T.k≠6->own2 f=70+o:=fun c=>by rw [ho2];simp only;rw [if_neg (by omega),if_pos (Or.inr ⟨c,Or.inl trivial⟩)]
 have sg:T.k≠6->own2 g=70+o:=fun c=>by rw [ho2];simp only;rw [if_neg (by omega),if_pos (Or.inr ⟨c,Or.inr trivial⟩)]
 have sq:∀ x,(x=q∨x∈bs)->own2 x=110+o:=fun x hx=>by
  have e1:q0<=x:=by rcases hx with rfl | c;exact hqn;exact hQ.los x c
  have e2:x < b:=by rcases hx with rfl | c;exact r3;exact r4 x c
  rw [ho2];simp only
  rw [if_neg (by omega),if_neg (by omega),if_pos hx]
 have hcase:∀ x,own2 x=own x∨(n<=x/\Cl w x):=fun x=>by
  by_cases c1:x=b
  ·subst c1;exact Or.inr ⟨by omega,Cl.of hc⟩
  by_cases c2:x=p∨(T.k≠6/\(x=f∨x=g))
  ·refine Or.inr ?_
   rcases c2 with rfl |⟨c6,rfl | rfl⟩
   ·exact⟨r1.1,k1⟩
   ·exact⟨r1.2.1,k2 c6⟩
   ·refine⟨r1.2.2,?_⟩
    by_cases e:T.k=3∨T.k=5
    ·exact k3 e
    ·rw [hg e];exact k2 c6
  by_cases c3:x=q∨x∈bs
  ·refine Or.inr ?_
   rcases c3 with rfl | c
   ·exact⟨by omega,Cl.of hQ.head⟩
   ·obtain⟨cs,e⟩:=hQ.ch.mem c
    have e1:q0<=x:=hQ.los x c
    exact⟨by omega,Cl.of e⟩
  ·refine Or.inl ?_
   rw [ho2];simp only
   rw [if_neg c1,if_neg c2,if_neg c3]
 have gx:∀ j x,set1 k.os o (some ⟨hh,T,[]⟩) j=some x->(j=o/\x=⟨hh,T,[]⟩)∨(j≠o/\k.os j=some x):=fun j x hx=>by
  by_cases e:j=o
  ·subst e
   rw [set1_at] at hx
   exact Or.inl ⟨rfl,(Option.some.inj hx).symm⟩
  ·rw [set1_ne _ _ e] at hx;exact Or.inr ⟨e,hx⟩
 refine⟨own2,⟨fun _=>?_,fun _=>?_,fun _=>?_,fun _=>?_,fun _=>?_,fun _=>?_,fun _=>?_,fun _=>?_,fun x h3 h4=>?_,h.slo,h.av,⟨fun j x hx=>?_,fun z hz'=>?_⟩,h.ti,fun j x hx=>?_,fun j u hu _=>?_,fun j x hx _=>?_,fun j x hx _=>?_,fun j x hx _=>?_⟩,hX2.os,hX2.tape,hX2.output,hX2.size,fun x hx h0=>?_,fun x hx h0=>hX2.out x hx h0⟩
 ·have:=h.kern (by decide);exact⟨hne _ _ this.1 (by decide),this.2⟩
 ·have:=h.tn (by decide);exact⟨hne _ _ this.1 (by decide),this.2⟩
 ·have:=h.on (by decide);exact⟨hne _ _ this.1 (by decide),this.2⟩
 ·have:=h.ta (by decide);exact⟨hne _ _ this.1 (by decide),this.2⟩
 ·refine⟨hne _ _ h1 (by decide),?_⟩
  show w.heap[G.oa]?=some (.cells (oaC (G.setX o b p f g q) (set1 k.os o (some ⟨hh,T,[]⟩))) 77 (0,0))
  rw [oaC_put G k.os ho hs]
  exact h2
 ·have:=h.rd (by decide);exact⟨fun x h3 h4=>hne _ _ (this.1 x h3 h4) (by decide),this.2⟩
 ·obtain⟨a,v,ys,c,d,e⟩:=h.en (by decide)
  exact⟨hne _ _ a (by decide),v,ys,fun g hg=>hne _ _ (c g hg) (by decide),d,e⟩
 ·obtain⟨a,a2,a3,v,c,d⟩:=h.al (by decide)
  exact⟨hne _ _ a (by decide),hne _ _ a2 (by decide),hne _ _ a3 (by decide),v,fun g hg=>hne _ _ (c g hg) (by decide),d⟩
 ·rcases hcase x with e |⟨_,e⟩
  ·rw [e];exact h.nc x h3 h4
  ·exact absurd e h4
 ·rcases gx j x hx with⟨rfl,rfl⟩ |⟨_,hx⟩
  ·exact hw
  ·exact h.xs.wd j x hx
 ·obtain⟨h0,y,hy⟩:=h.xs.al z hz'
  refine⟨h0,?_⟩
  by_cases e:z.1.toNat=o
  ·exact⟨_,by rw [e];exact set1_at _ _ _⟩
  ·exact⟨y,by show set1 k.os o _ z.1.toNat=_;rw [set1_ne _ _ e];exact hy⟩
 ·rcases gx j x hx with⟨rfl,rfl⟩ |⟨_,hx⟩
  ·exact ho
  ·exact h.oi j x hx
 ·have:=h.task j u hu (by have:=h.ti j u hu;omega)
  refine⟨hne _ _ this.1 (by omega),?_⟩
  show w.heap[G.tp j]?=some (.cells (tC (G.setX o b p f g q) j u) 79 (0,0))
  rw [tC_put G (hon j u hu)]
  exact this.2
 ·rcases gx j x hx with⟨rfl,rfl⟩ |⟨e,hx⟩
  ·have ex:(G.setX j b p f g q).xp j=b:=by simp [Geo.setX]
   have ep:(G.setX j b p f g q).op j=p:=by simp [Geo.setX]
   have eq:(G.setX j b p f g q).qp j=q:=by simp [Geo.setX]
   unfold xC
   rw [ex,ep,eq]
   exact⟨sb,hc⟩
  ·have ex:(G.setX o b p f g q).xp j=G.xp j:=by simp [Geo.setX,e]
   have ep:(G.setX o b p f g q).op j=G.op j:=by simp [Geo.setX,e]
   have eq:(G.setX o b p f g q).qp j=G.qp j:=by simp [Geo.setX,e]
   have:=h.thg j x hx (by omega)
   unfold xC
   rw [ex,ep,eq]
   exact⟨hne _ _ this.1 (by omega),this.2⟩
 ·rcases gx j x hx with⟨rfl,rfl⟩ |⟨e,hx⟩
  ·have ep:(G.setX j b p f g q).op j=p:=by simp [Geo.setX]
   have ef:(G.setX j b p f g q).of j=f:=by simp [Geo.setX]
   have eg:(G.setX j b p f g q).og j=g:=by simp [Geo.setX]
   rw [ep,ef,eg]
   exact⟨⟨by rw [ep];exact sp,fun c=>by rw [ef];exact sf c,fun c=>by rw [eg];exact sg c,fun c=>by rw [ef,eg];exact hg c⟩,hT⟩
  ·have ep:(G.setX o b p f g q).op j=G.op j:=by simp [Geo.setX,e]
   have ef:(G.setX o b p f g q).of j=G.of j:=by simp [Geo.setX,e]
   have eg:(G.setX o b p f g q).og j=G.og j:=by simp [Geo.setX,e]
   obtain⟨a,c⟩:=h.obj j x hx (by have:=h.oi j x hx;omega)
   rw [ep,ef,eg]
   exact⟨⟨by rw [ep];exact hne _ _ a.p (by omega),fun c=>by rw [ef];exact hne _ _ (a.f c) (by omega),fun c=>by rw [eg];exact hne _ _ (a.g c) (by omega),fun c=>by rw [ef,eg];exact a.gf c⟩,c⟩
 ·rcases gx j x hx with⟨rfl,rfl⟩ |⟨e,hx⟩
  ·have eq:(G.setX j b p f g q).qp j=q:=by simp [Geo.setX]
   rw [eq]
   exact⟨bs,hQ.head,hQ.ch,sq q (Or.inl rfl),fun x hx=>sq x (Or.inr hx),hQ.len⟩
  ·have eq:(G.setX o b p f g q).qp j=G.qp j:=by simp [Geo.setX,e]
   rw [eq]
   exact qu_mono (h.que j x hx (by omega)) fun y hy=>hne y _ hy (by omega)
 ·rcases hcase x with e |⟨e,_⟩
  ·rw [e];exact hX2.zero x hx h0
  ·omega
end
end Go.Proofs.YtbbdndfibjdcfaaGreat
namespace Go.Proofs.YtbbdndfibjdcfaaGreat
open Go Go.RowKit
section
variable {o0 own0:Nat->Nat} {w0 wa w w':World} {G:Geo} {k:Kn}
theorem k_omake(h:St o0 w0 G w k):Calls Tryz.prog 107 #[.pointer (some ⟨G.on,0,none⟩)] w fun e w'=>e=.returned (.tuple #[.int .u32 (Hd.makeH 32 k.oh:Nat),.int .i64 (Hd.makeE 32 k.oh)])/\St o0 w0 G w' { k with oh:=Hd.makeS 32 k.oh }:=by
 obtain⟨own,h,x⟩:=h
 obtain⟨h1,h2⟩:=h.on (by decide)
 refine(Hd.make_any h2).mono fun e w' ⟨he,hT,hb⟩=>⟨he,?_⟩
 have hoff:Off own 3 w w':=off_hd hb (by simpa using h1)
 exact⟨_,(h.off hoff).shutOn ((ext_cl (tab_cl hT) h2.lt).trans h1) hT,x.trans (hoff.ext (by decide))⟩
theorem set_rowX{own:Nat->Nat}(h:KM own G w k){i:Nat}(b:Nat):PutX own w G (w.setCell ⟨G.oa,i,none⟩ (.pointer (some ⟨b,0,none⟩))) k i b:=by
 obtain⟨h1,h2⟩:=h.oa (by decide)
 have hoff:Off own 5 w (w.setCell ⟨G.oa,i,none⟩ (.pointer (some ⟨b,0,none⟩))):=off_cell w i _ h1
 have hc:=set_block h2 i (.pointer (some ⟨b,0,none⟩))
 exact⟨_,h.off hoff,(ext_cl (Cl.of hc) (at_lt h2)).trans h1,hc,hoff.ext (by decide)⟩
theorem St.putX(h:St o0 w0 G w k){i:Nat}(b:Nat):PutX o0 w0 G (w.setCell ⟨G.oa,i,none⟩ (.pointer (some ⟨b,0,none⟩))) k i b:=by
 obtain⟨own,h,x⟩:=h
 obtain⟨o2,a,b2,c,d⟩:=set_rowX h (i:=i) b
 exact⟨o2,a,b2,c,x.trans d⟩
theorem xput_no(h:St o0 w0 G w k)(hg:Hd.Good 32 k.oh)(he:Hd.makeE 32 k.oh≠0)(b:Nat):Calls Tryz.prog 75 #[.pointer (some ⟨G.kp,4,none⟩),.pointer (some ⟨b,0,none⟩)] w fun e w'=>e=.returned (.tuple #[.int .u32 0,.int .i64 0,.int .i64 (Hd.makeE 32 k.oh)])/\St o0 w0 G w' k:=by
 have HM:=k_omake h
 have e1:Hd.makeS 32 k.oh=k.oh:=by
  unfold Hd.makeS;unfold Hd.makeE at he
  split at he
  ·exact absurd rfl he
  ·rename_i c;rw [if_neg c]
 have he':(Hd.makeE 32 k.oh == 0)=false:=by simpa using he
 have he2:(Hd.makeE 32 k.oh != 0)=true:=by simpa using he
 rw [e1] at HM
 have c4:=h.c4
 clear h he hg e1
 generalize Hd.makeE 32 k.oh=er at *
 generalize Hd.makeH 32 k.oh=hh at *
 go_enter Tryz.func75,Tryz.ntmps75
 go_wp2_with (first |(go_at_call 107;refine HM.mono ?_;rintro e w1 ⟨rfl,h1⟩;have S1:Hid (St o0 w0 G w1 k):=h1;clear h1))
 refine bodyPost_ret (results_tmp3 rfl _ _ _) rfl ?_
 exact⟨rfl,S1.out⟩
theorem xput_yes(h:St o0 w0 G w k)(hg:Hd.Good 32 k.oh)(he:Hd.makeE 32 k.oh=0)(b:Nat):Calls Tryz.prog 75 #[.pointer (some ⟨G.kp,4,none⟩),.pointer (some ⟨b,0,none⟩)] w fun e w'=>e=.returned (.tuple #[.int .u32 (Hd.makeH 32 k.oh:Nat),.int .i64 (Hd.fr 32 k.oh:Nat),.int .i64 0])/\PutX o0 w0 G w' { k with oh:=Hd.makeS 32 k.oh } (Hd.fr 32 k.oh) b:=by
 have HM:=k_omake h
 have hlt:Hd.fr 32 k.oh < 32:=by
  unfold Hd.makeE at he
  split at he
  ·assumption
  ·cases he
 have hP:Hd.placeE (Hd.makeS 32 k.oh) (Hd.makeH 32 k.oh)=0:=Hd.make_is (by omega) hlt
 have hmh:Hd.makeH 32 k.oh=((k.oh (Hd.fr 32 k.oh)).1+1) * 256+Hd.fr 32 k.oh:=by unfold Hd.makeH;rw [if_pos hlt]
 have hpp:Hd.placeP (Hd.makeS 32 k.oh) (Hd.makeH 32 k.oh)=Hd.fr 32 k.oh:=by unfold Hd.placeP;rw [if_pos hP,hmh];omega
 have hz:Hd.makeH 32 k.oh<=4294967295:=by
  obtain⟨h1,h2⟩:=Hd.isFr_not (Hd.fr_yes hlt)
  omega
 have HPL:Hid (∀ wx,St o0 w0 G wx { k with oh:=Hd.makeS 32 k.oh }->Calls Tryz.prog 91 #[.pointer (some ⟨G.on,0,none⟩),.int .u32 (Hd.makeH 32 k.oh:Nat)] wx fun e w'=>e=.returned (.tuple #[.int .i64 (Hd.fr 32 k.oh:Nat),.int .i64 0])/\St o0 w0 G w' { k with oh:=Hd.makeS 32 k.oh }/\Below wx.heap.size wx w'):=fun wx hx=>by
  have:=k_oplace hx (Hd.makeH 32 k.oh) hz
  rw [show({ k with oh:=Hd.makeS 32 k.oh }:Kn).oh=Hd.makeS 32 k.oh from rfl,hpp,hP] at this
  exact this
 have HLT:Hid (Hd.fr 32 k.oh < 32):=hlt
 have hltI:((Hd.fr 32 k.oh:Nat):Int) < 32:=by omega
 rw [he] at HM
 have c4:=h.c4
 clear h he hg hlt hP hmh hpp hz
 generalize Hd.makeS 32 k.oh=S at *
 generalize Hd.makeH 32 k.oh=hh at *
 generalize Hd.fr 32 k.oh=i at *
 go_enter Tryz.func75,Tryz.ntmps75
 go_wp2_with (first
  |(go_at_call 107;refine HM.mono ?_;rintro e w1 ⟨rfl,h1⟩;have S1:Hid (St o0 w0 G w1 { k with oh:=S }):=h1;have v2:=h1.c4;clear h1)
  |(go_at_call 91;(refine(HPL.out _ S1.out).mono ?_;rintro e w2 ⟨rfl,h2,b2⟩;have S2:Hid (St o0 w0 G w2 { k with oh:=S }):=h2;have v3:=h2.c5;have vt:=h2.oat HLT.out;have vf:w2.frozen? ⟨G.oa,i,none⟩=false:=(by simp [World.frozen?,h2.oa]);clear h2 b2)))
 refine bodyPost_ret (results_tmp3 rfl _ _ _) rfl ?_
 exact⟨rfl,S2.out.putX b⟩
def mayE(k:Kn)(kd a:Int):Int:=if kd=6 then(if Hd.placeE k.oh a.toNat≠0 then Hd.placeE k.oh a.toNat else match k.os (Hd.placeP k.oh a.toNat) with | some x=>if x.x.k=1∨x.x.k=4 then 0 else 1 | none=>1) else 0
theorem mayAlarm_any(h:St o0 w0 G w k)(hG:Shown G)(hc:∀ z,Hd.placeE k.oh z=0->∃ x,k.os (Hd.placeP k.oh z)=some x)(kd a b:Int)(ha:0<=a/\a<=4294967295):Calls Tryz.prog 73 #[.pointer (some ⟨G.kp,0,none⟩),.agg #[.int .u8 kd,.int .u32 a,.int .u32 b]] w fun e w'=>e=.returned (.int .i64 (mayE k kd a))/\Below w.heap.size w w':=by
 obtain⟨n,rfl⟩:=Int.eq_ofNat_of_zero_le ha.1
 have hb0:=alloc_below w (.cells #[.int .u8 kd,.int .u32 (n:Nat),.int .u32 b] 35)
 have hal:=alloc_at w (.cells #[.int .u8 kd,.int .u32 (n:Nat),.int .u32 b] 35)
 have c0:(w.alloc (.cells #[.int .u8 kd,.int .u32 (n:Nat),.int .u32 b] 35)).cell? ⟨w.heap.size,0,none⟩=some (.int .u8 kd):=by rw [cell_of hal];rfl
 have c1:(w.alloc (.cells #[.int .u8 kd,.int .u32 (n:Nat),.int .u32 b] 35)).cell? ⟨w.heap.size,1,none⟩=some (.int .u32 (n:Nat)):=by rw [cell_of hal];rfl
 have HB:=(show Hid _ from hb0)
 by_cases h6:kd=6
 ·subst h6
  have h1:=h.below hb0
  by_cases he:Hd.placeE k.oh n=0
  ·obtain⟨x,hx⟩:=hc n he
   have e:mayE k 6 (n:Nat)=if x.x.k=1∨x.x.k=4 then 0 else 1:=by
    unfold mayE
    rw [if_pos rfl,if_neg (by simpa using he),Int.toNat_natCast,hx]
   rw [e]
   have HT:=target_at h1 hG n (by omega) he hx
   clear h h1 hc he hx hal
   generalize Hd.placeP k.oh n=o at *
   generalize (if x.x.k=1∨x.x.k=4 then(.pointer (some ⟨G.xp o,0,none⟩):Value) else .pointer none)=vv at *
   generalize (if x.x.k=1∨x.x.k=4 then(0:Int) else 1)=er at *
   go_enter Tryz.func73,Tryz.ntmps73
   go_wp2_with (go_at_call 57;refine HT.mono ?_;rintro e w1 ⟨rfl,_,b1⟩;have B1:Hid (Below w.heap.size w w1):=HB.out.trans (b1.mono HB.out.size);clear b1)
   go_ret
   exact⟨rfl,B1.out⟩
  ·have e:mayE k 6 (n:Nat)=Hd.placeE k.oh n:=by
    unfold mayE
    rw [if_pos rfl,Int.toNat_natCast,if_pos he]
   rw [e]
   have HT:=target_no h1 n (by omega) he
   clear h h1 hc he hal
   generalize Hd.placeE k.oh n=er at *
   go_enter Tryz.func73,Tryz.ntmps73
   go_wp2_with (go_at_call 57;refine HT.mono ?_;rintro e w1 ⟨rfl,_,b1⟩;have B1:Hid (Below w.heap.size w w1):=HB.out.trans (b1.mono HB.out.size);clear b1)
   go_ret
   exact⟨rfl,B1.out⟩
 ·have e:mayE k kd (n:Nat)=0:=by unfold mayE;rw [if_neg h6]
  rw [e]
  have hk:(kd == 6)=false:=by simpa using h6
  clear h hc hal
  go_enter Tryz.func73,Tryz.ntmps73
  go_wp2
  go_ret
  exact⟨rfl,HB.out⟩
end
end Go.Proofs.YtbbdndfibjdcfaaGreat
namespace Go.Proofs.YtbbdndfibjdcfaaGreat
open Go Go.RowKit
def born(k:Kn)(kd a b:Int):Kn:={ k with oh:=Hd.makeS 32 k.oh,os:=set1 k.os (Hd.fr 32 k.oh) (some ⟨Hd.makeH 32 k.oh,Ob.newX kd a b,[]⟩) }
theorem born_ok{k:Kn}(h:Fin k)(kd a b:Int)(he:Hd.makeE 32 k.oh=0):Core (born k kd a b) 0 NoD/\SelfK (born k kd a b)/\Hd.fr 32 k.oh < 32/\k.os (Hd.fr 32 k.oh)=none/\∀ i t,k.ts i=some t->t.on≠((Hd.fr 32 k.oh:Nat):Int):=by
 obtain⟨a1,a2,a3,a4,a5⟩:=make_ok h.core.oh he
 have hn:k.os (Hd.fr 32 k.oh)=none:=by
  have:=h.core.ohO (Hd.fr 32 k.oh)
  rw [a2] at this
  simpa using this.symm
 have hc:Core (born k kd a b) 0 NoD:=h.core.thingBorn (k':=born k kd a b) a1 hn (x:=⟨Hd.makeH 32 k.oh,Ob.newX kd a b,[]⟩) (y:=((k.oh (Hd.fr 32 k.oh)).1+1,true)) a3 rfl a5 rfl rfl rfl rfl a4 rfl (new_plain kd a b)
 have hno:∀ j t,k.ts j=some t->t.st=2->t.on≠((Hd.fr 32 k.oh:Nat):Int):=fun j t ht hs hon=>by
  have:=(hc.qT (Hd.fr 32 k.oh) ⟨Hd.makeH 32 k.oh,Ob.newX kd a b,[]⟩ (set1_at _ _ _) ((j:Int),t.rank)).2 ⟨j,t,rfl,ht,hs,hon,rfl⟩
  simp at this
 have hos:∀ p y,p≠Hd.fr 32 k.oh->set1 k.os (Hd.fr 32 k.oh) (some (⟨Hd.makeH 32 k.oh,Ob.newX kd a b,[]⟩:Th)) p=some y->k.os p=some y:=fun p y hp hy=>by rw [set1_ne _ _ hp] at hy;exact hy
 refine⟨hc,fun p y hy j t ht hs hon hw=>?_,a1,hn,fun i t ht hon=>?_⟩
 ·by_cases c:p=Hd.fr 32 k.oh
  ·subst c;exact absurd hon (hno j t ht hs)
  ·exact h.self p y (hos p y c hy) j t ht hs hon hw
 ·by_cases hs:t.st=2
  ·exact hno i t ht hs hon
  ·have:=((h.core.tOk i t ht).idle hs).1
   omega
theorem zero7{w:World}{b:Nat}{c2 c3 c4 c5 c6:Value}(h:w.heap[b]?=some (.cells #[.int .u32 0,.int .i64 0,c2,c3,c4,c5,c6] 87 (0,0))):(w.cell? ⟨b,0,none⟩=some (.int .u32 0)/\w.cell? ⟨b,1,none⟩=some (.int .i64 0))/\(w.frozen? ⟨b,0,none⟩=false/\w.frozen? ⟨b,1,none⟩=false):=by
 refine⟨⟨?_,?_⟩,?_,?_⟩
 iterate 2 (rw [cell_of h];rfl)
 all_goals simp [World.frozen?,h]
section
variable {o0 own0:Nat->Nat} {w0 wa w w':World} {G:Geo} {k:Kn}
theorem made_cells{w wx:World}{kd a b:Int}(hb:Below (w.heap.size+1) (w.alloc (.cells #[.int .u8 kd,.int .u32 a,.int .u32 b] 35)) wx):wx.cell? ⟨w.heap.size,0,none⟩=some (.int .u8 kd)/\wx.cell? ⟨w.heap.size,1,none⟩=some (.int .u32 a)/\wx.cell? ⟨w.heap.size,2,none⟩=some (.int .u32 b):=by
 have h:=(hb.block w.heap.size (Nat.lt_succ_self _)).trans (alloc_at w (.cells #[.int .u8 kd,.int .u32 a,.int .u32 b] 35))
 refine⟨?_,?_,?_⟩
 all_goals rw [cell_of h];rfl
theorem thing_no(h:St o0 w0 G w k)(hG:Shown G)(hf:Fin k)(kd a b:Int)(ha:0<=a/\a<=4294967295)(hb:0<=b/\b<=4294967295)(hE:¬ (Ob.May kd a b/\mayE k kd a=0)):Calls Tryz.prog 32 #[.pointer (some ⟨G.kp,0,none⟩),.agg #[.int .u8 kd,.int .u32 a,.int .u32 b]] w fun e w'=>e=.returned (.tuple #[.int .u32 ((thingK k kd a b).1:Nat),.int .i64 (thingK k kd a b).2.1])/\(thingK k kd a b).2.2=k/\Below w.heap.size w w':=by
 have hb0:=alloc_below w (.cells #[.int .u8 kd,.int .u32 a,.int .u32 b] 35)
 have hs0:=alloc_size w (.cells #[.int .u8 kd,.int .u32 a,.int .u32 b] 35)
 have h1:=h.below hb0
 have HTh:=there_any h1 h1.slo.1.1
 obtain⟨c0,c1,c2⟩:=made_cells (w:=w) (kd:=kd) (a:=a) (b:=b) (Below.refl _ _)
 have HB:Hid (Below w.heap.size w (w.alloc (.cells #[.int .u8 kd,.int .u32 a,.int .u32 b] 35))/\(w.alloc (.cells #[.int .u8 kd,.int .u32 a,.int .u32 b] 35)).heap.size=w.heap.size+1):=⟨hb0,hs0⟩
 by_cases hm:Ob.May kd a b
 ·have he:mayE k kd a≠0:=fun c=>hE ⟨hm,c⟩
  have e:thingK k kd a b=(0,mayE k kd a,k):=by
   have e0:Ob.newE kd a b=0:=by unfold Ob.newE;rw [if_pos hm]
   unfold thingK
   rw [if_neg (by simp [e0])]
   unfold mayE at he ⊢
   by_cases h6:kd=6
   ·rw [if_pos h6] at he ⊢
    by_cases hp:Hd.placeE k.oh a.toNat≠0
    ·rw [if_pos ⟨h6,hp⟩,if_pos hp]
    ·rw [if_neg (fun c=>hp c.2),if_neg hp]
     rw [if_neg hp] at he
     obtain⟨x,hx,_⟩:=hf.core.thing_at (by simpa using hp)
     rw [hx] at he ⊢
     simp only at he ⊢
     by_cases hk:x.x.k=1∨x.x.k=4
     ·rw [if_pos hk] at he;exact absurd rfl he
     ·rw [if_pos ⟨h6,hk⟩,if_neg hk]
   ·rw [if_neg h6] at he;exact absurd rfl he
  rw [e]
  have HN:=Ob.new_x (w:=w.alloc (.cells #[.int .u8 kd,.int .u32 a,.int .u32 b] 35)) ha hb hm
  have HM:Hid (∀ wx,Below (w.alloc (.cells #[.int .u8 kd,.int .u32 a,.int .u32 b] 35)).heap.size (w.alloc (.cells #[.int .u8 kd,.int .u32 a,.int .u32 b] 35)) wx->Calls Tryz.prog 73 #[.pointer (some ⟨G.kp,0,none⟩),.agg #[.int .u8 kd,.int .u32 a,.int .u32 b]] wx fun e w'=>e=.returned (.int .i64 (mayE k kd a))/\Below wx.heap.size wx w'):=fun wx hbx=>mayAlarm_any (h1.below hbx) hG (fun z hz=>by obtain⟨x,hx,_⟩:=hf.core.thing_at hz;exact⟨x,hx⟩) kd a b ha
  have he':(mayE k kd a == 0)=false:=by simpa using he
  have he2:(mayE k kd a != 0)=true:=by simpa using he
  clear h h1 hf hE e he hm hb0
  generalize mayE k kd a=er at *
  rw [hs0] at HN
  go_enter Tryz.func32,Tryz.ntmps32
  go_wp2_with (first
   |(go_at_call 41;refine HTh.mono ?_;rintro e w1 ⟨rfl,rfl⟩)
   |(go_at_call 72;refine HN.mono ?_;rintro e w2 ⟨p,f,g,rfl,_,_,_,_,_,b2⟩;have B2:=(show Hid _ from b2);obtain⟨d0,d1,d2⟩:=made_cells b2;clear b2)
   |(go_at_call 73;refine(HM.out _ (by rw [HB.out.2];exact B2.out)).mono ?_;rintro e w3 ⟨rfl,b3⟩;have B3:Hid (Below w2.heap.size w2 w3):=b3;clear b3))
  go_ret2
  refine⟨rfl,trivial,?_⟩
  have s2:=B2.out.size
  rw [HB.out.2] at s2
  exact HB.out.1.trans ((B2.out.mono (Nat.le_succ _)).trans (B3.out.mono (by omega)))
 ·have e:thingK k kd a b=(0,1,k):=by
   have e0:Ob.newE kd a b=1:=by unfold Ob.newE;rw [if_neg hm]
   unfold thingK
   rw [if_pos (by simp [e0]),e0]
  rw [e]
  have HN:=Ob.new_none (w:=w.alloc (.cells #[.int .u8 kd,.int .u32 a,.int .u32 b] 35)) ha hb hm
  clear h h1 hf hE e hm hb0
  go_enter Tryz.func32,Tryz.ntmps32
  go_wp2_with (first
   |(go_at_call 41;refine HTh.mono ?_;rintro e w1 ⟨rfl,rfl⟩)
   |(go_at_call 72;refine HN.mono ?_;rintro e w2 ⟨rfl,b2⟩;have B2:=(show Hid _ from b2);clear b2))
  go_ret2
  exact⟨rfl,trivial,HB.out.1.trans (B2.out.mono (by have:=HB.out.2;omega))⟩
end
end Go.Proofs.YtbbdndfibjdcfaaGreat
namespace Go.Proofs.YtbbdndfibjdcfaaGreat
open Go Go.RowKit
noncomputable def untag(own:Nat->Nat)(n:Nat):List Nat:=(List.range n).filter fun b=>decide (own b≠0)
theorem untag_no{own:Nat->Nat}{n b:Nat}(h:own b=0):b ∉ untag own n:=by simp [untag,h]
theorem put_ob{own:Nat->Nat}{wa wx wy:World}{G:Geo}{k1:Kn}{o b:Nat}(h:PutX own wa G wx k1 o b)(hb:Hd.Buts [b] wx wy):Ob.Buts (b :: untag own wa.heap.size) wa wy:=by
 obtain⟨o1,q1,q2,q3,q4⟩:=h
 refine⟨hb.os.trans q4.os,hb.tape.trans q4.tape,hb.output.trans q4.output,Nat.le_trans q4.size hb.size,fun x hx hn=>?_⟩
 have h1:x≠b:=fun e=>hn (List.mem_cons.2 (Or.inl e))
 have h2:own x=0:=by
  by_cases c:own x=0
  ·exact c
  ·exact absurd (List.mem_cons.2 (Or.inr (by simp [untag,hx,c]))) hn
 exact(hb.block x (Nat.lt_of_lt_of_le hx q4.size) (by simpa using h1)).trans (q4.out x hx h2)
section
variable {o0 own0:Nat->Nat} {w0 wa w w':World} {G:Geo} {k:Kn}
theorem thingK_full{kd a b:Int}(hf:Fin k)(hm:Ob.May kd a b)(he:mayE k kd a=0):thingK k kd a b=if Hd.makeE 32 k.oh≠0 then(0,Hd.makeE 32 k.oh,k) else(Hd.makeH 32 k.oh,0,anew (born k kd a b)):=by
 have e0:Ob.newE kd a b=0:=by unfold Ob.newE;rw [if_pos hm]
 unfold thingK
 rw [if_neg (by simp [e0])]
 unfold mayE at he
 by_cases h6:kd=6
 ·rw [if_pos h6] at he
  by_cases hp:Hd.placeE k.oh a.toNat≠0
  ·rw [if_pos hp] at he;exact absurd he hp
  ·rw [if_neg hp] at he
   rw [if_neg (fun c=>hp c.2)]
   obtain⟨x,hx,_⟩:=hf.core.thing_at (by simpa using hp)
   rw [hx] at he ⊢
   simp only at he ⊢
   by_cases hk:x.x.k=1∨x.x.k=4
   ·rw [if_neg (fun c=>c.2 hk)];rfl
   ·rw [if_neg hk] at he;cases he
 ·rw [if_neg (fun c=>h6 c.1),if_neg (fun c=>h6 c.1)];rfl
theorem thing_full(h:St o0 w0 G w k)(hG:Shown G)(hf:Fin k)(kd a b:Int)(ha:0<=a/\a<=4294967295)(hb:0<=b/\b<=4294967295)(hm:Ob.May kd a b)(he:mayE k kd a=0)(hM:Hd.makeE 32 k.oh≠0):Calls Tryz.prog 32 #[.pointer (some ⟨G.kp,0,none⟩),.agg #[.int .u8 kd,.int .u32 a,.int .u32 b]] w fun e w'=>e=.returned (.tuple #[.int .u32 ((thingK k kd a b).1:Nat),.int .i64 (thingK k kd a b).2.1])/\(thingK k kd a b).2.2=k/\St o0 w0 G w' k:=by
 have hb0:=alloc_below w (.cells #[.int .u8 kd,.int .u32 a,.int .u32 b] 35)
 have hs0:=alloc_size w (.cells #[.int .u8 kd,.int .u32 a,.int .u32 b] 35)
 have h1:=h.below hb0
 have HTh:=there_any h1 h1.slo.1.1
 obtain⟨c0,c1,c2⟩:=made_cells (w:=w) (kd:=kd) (a:=a) (b:=b) (Below.refl _ _)
 have HB:Hid (Below w.heap.size w (w.alloc (.cells #[.int .u8 kd,.int .u32 a,.int .u32 b] 35))/\(w.alloc (.cells #[.int .u8 kd,.int .u32 a,.int .u32 b] 35)).heap.size=w.heap.size+1):=⟨hb0,hs0⟩
 rw [thingK_full hf hm he,if_pos hM]
 have HN:=Ob.new_x (w:=w.alloc (.cells #[.int .u8 kd,.int .u32 a,.int .u32 b] 35)) ha hb hm
 have HMy:Hid (∀ wx,Below (w.alloc (.cells #[.int .u8 kd,.int .u32 a,.int .u32 b] 35)).heap.size (w.alloc (.cells #[.int .u8 kd,.int .u32 a,.int .u32 b] 35)) wx->Calls Tryz.prog 73 #[.pointer (some ⟨G.kp,0,none⟩),.agg #[.int .u8 kd,.int .u32 a,.int .u32 b]] wx fun e w'=>e=.returned (.int .i64 0)/\Below wx.heap.size wx w'):=fun wx hbx=>he ▸ mayAlarm_any (h1.below hbx) hG (fun z hz=>by obtain⟨x,hx,_⟩:=hf.core.thing_at hz;exact⟨x,hx⟩) kd a b ha
 have HP:Hid (∀ wx,Below (w.alloc (.cells #[.int .u8 kd,.int .u32 a,.int .u32 b] 35)).heap.size (w.alloc (.cells #[.int .u8 kd,.int .u32 a,.int .u32 b] 35)) wx->∀ b,Calls Tryz.prog 75 #[.pointer (some ⟨G.kp,4,none⟩),.pointer (some ⟨b,0,none⟩)] wx fun e w'=>e=.returned (.tuple #[.int .u32 0,.int .i64 0,.int .i64 (Hd.makeE 32 k.oh)])/\St o0 w0 G w' k):=fun wx hbx b=>xput_no (h1.below hbx) hf.core.oh hM b
 have he':(Hd.makeE 32 k.oh == 0)=false:=by simpa using hM
 have he2:(Hd.makeE 32 k.oh != 0)=true:=by simpa using hM
 clear h h1 hf he hm hb0 hM
 generalize Hd.makeE 32 k.oh=er at *
 rw [hs0] at HN
 go_enter Tryz.func32,Tryz.ntmps32
 go_wp2_with (first
  |(go_at_call 41;refine HTh.mono ?_;rintro e w1 ⟨rfl,rfl⟩)
  |(go_at_call 72;refine HN.mono ?_;rintro e w2 ⟨p,f,g,rfl,_,_,_,_,_,b2⟩;have B2:=(show Hid _ from b2);obtain⟨d0,d1,d2⟩:=made_cells b2;clear b2)
  |(go_at_call 73;refine(HMy.out _ (by rw [HB.out.2];exact B2.out)).mono ?_;rintro e w3 ⟨rfl,b3⟩;have B3:Hid (Below (w.heap.size+1) (w.alloc (.cells #[.int .u8 kd,.int .u32 a,.int .u32 b] 35)) w3):=B2.out.trans (b3.mono (by have:=B2.out.size;rw [HB.out.2] at this;exact this));obtain⟨f0,f1,f2⟩:=made_cells B3.out;clear b3))
 go_region_held3 (fun w'=>w'.cell? ⟨w.heap.size,0,none⟩=some (.int .u8 kd)/\w'.cell? ⟨w.heap.size,1,none⟩=some (.int .u32 a)/\w'.cell? ⟨w.heap.size,2,none⟩=some (.int .u32 b)) (go_keep) (first
  |(go_at_call 74;refine(Wt.qnew_any w3.drew (B:=fun x=>w3.heap.size<=x) (fun x hx=>hx)).mono ?_;rintro e w4 ⟨rfl,hq,b4⟩;have B4:Hid (Below (w.heap.size+1) (w.alloc (.cells #[.int .u8 kd,.int .u32 a,.int .u32 b] 35)) w4):=(B3.out.trans ((below_drewN w3 1).mono (by have:=B3.out.size;rw [HB.out.2] at this;exact this))).trans (b4.mono (by have:=B3.out.size;rw [HB.out.2] at this;exact this));obtain⟨y0,y1,y2⟩:=made_cells B4.out;clear b4 hq)
  | fail)
 have B5:Hid (∀ o,Below (w.alloc (.cells #[.int .u8 kd,.int .u32 a,.int .u32 b] 35)).heap.size (w.alloc (.cells #[.int .u8 kd,.int .u32 a,.int .u32 b] 35)) (w4.alloc o)):=fun o=>(by rw [HB.out.2];exact B4.out:Below (w.alloc (.cells #[.int .u8 kd,.int .u32 a,.int .u32 b] 35)).heap.size (w.alloc (.cells #[.int .u8 kd,.int .u32 a,.int .u32 b] 35)) w4).trans ((alloc_below w4 o).mono (B4.out.size))
 go_wp2_with (go_at_call 75;refine(HP.out _ (B5.out _) _).mono ?_;rintro e w5 ⟨rfl,h5⟩;have S5:Hid (St o0 w0 G w5 k):=h5;clear h5)
 go_ret2
 exact⟨rfl,trivial,S5.out⟩
theorem thing_yes(h:St o0 w0 G w k)(hG:Shown G)(hf:Fin k)(kd a b:Int)(ha:0<=a/\a<=4294967295)(hb:0<=b/\b<=4294967295)(hm:Ob.May kd a b)(he:mayE k kd a=0)(hM:Hd.makeE 32 k.oh=0):Calls Tryz.prog 32 #[.pointer (some ⟨G.kp,0,none⟩),.agg #[.int .u8 kd,.int .u32 a,.int .u32 b]] w fun e w'=>e=.returned (.tuple #[.int .u32 ((thingK k kd a b).1:Nat),.int .i64 (thingK k kd a b).2.1])/\∃ G',(G'.kp=G.kp/\G'.an=G.an)/\Shown G'/\St o0 w0 G' w' (thingK k kd a b).2.2:=by
 have hb0:=alloc_below w (.cells #[.int .u8 kd,.int .u32 a,.int .u32 b] 35)
 have hs0:=alloc_size w (.cells #[.int .u8 kd,.int .u32 a,.int .u32 b] 35)
 have h1:=h.below hb0
 have HTh:=there_any h1 h1.slo.1.1
 obtain⟨c0,c1,c2⟩:=made_cells (w:=w) (kd:=kd) (a:=a) (b:=b) (Below.refl _ _)
 have HB:Hid (Below w.heap.size w (w.alloc (.cells #[.int .u8 kd,.int .u32 a,.int .u32 b] 35))/\(w.alloc (.cells #[.int .u8 kd,.int .u32 a,.int .u32 b] 35)).heap.size=w.heap.size+1):=⟨hb0,hs0⟩
 rw [thingK_full hf hm he,if_neg (by simpa using hM)]
 obtain⟨hC,hS,ho32,hno,hon⟩:=born_ok hf kd a b hM
 have HW:Hid ((0<=a/\a<=4294967295)/\0<=b/\b<=4294967295):=⟨ha,hb⟩
 have HS0:Hid (St o0 w0 G w k):=h
 have HN:=Ob.new_x (w:=w.alloc (.cells #[.int .u8 kd,.int .u32 a,.int .u32 b] 35)) ha hb hm
 have HMy:Hid (∀ wx,Below (w.alloc (.cells #[.int .u8 kd,.int .u32 a,.int .u32 b] 35)).heap.size (w.alloc (.cells #[.int .u8 kd,.int .u32 a,.int .u32 b] 35)) wx->Calls Tryz.prog 73 #[.pointer (some ⟨G.kp,0,none⟩),.agg #[.int .u8 kd,.int .u32 a,.int .u32 b]] wx fun e w'=>e=.returned (.int .i64 0)/\Below wx.heap.size wx w'):=fun wx hbx=>he ▸ mayAlarm_any (h1.below hbx) hG (fun z hz=>by obtain⟨x,hx,_⟩:=hf.core.thing_at hz;exact⟨x,hx⟩) kd a b ha
 have HP:Hid (∀ (own:Nat->Nat) (wx:World) (b:Nat),St own wx G wx k->Calls Tryz.prog 75 #[.pointer (some ⟨G.kp,4,none⟩),.pointer (some ⟨b,0,none⟩)] wx fun e w'=>e=.returned (.tuple #[.int .u32 (Hd.makeH 32 k.oh:Nat),.int .i64 (Hd.fr 32 k.oh:Nat),.int .i64 0])/\PutX own wx G w' { k with oh:=Hd.makeS 32 k.oh } (Hd.fr 32 k.oh) b):=fun own wx b hx=>xput_yes hx hf.core.oh hM b
 have HGe:Hid (Hd.fr 32 k.oh < 32/\k.os (Hd.fr 32 k.oh)=none/\(∀ i t,k.ts i=some t->t.on≠((Hd.fr 32 k.oh:Nat):Int))/\Shown G):=⟨ho32,hno,hon,hG⟩
 obtain⟨k0,hk0⟩:∃ k0,k0=born k kd a b:=⟨_,rfl⟩
 have HK0:Hid (k0=born k kd a b):=hk0
 rw [←hk0] at hC hS ⊢
 have HTell:Hid (∀ (G':Geo) wx,G'.kp=G.kp->St o0 w0 G' wx k0->CallsD Tryz.prog 52 #[.pointer (some ⟨G.kp,0,none⟩)] .returning wx fun e u' w'=>u'=.returning/\(e=.returned (.tuple #[])/\St o0 w0 G' w' (anew k0))):=fun G' wx e hx=>e ▸ tell_any hx hC hx.kd hS _
 clear h h1 hf he hm hb0 hM hC hS ho32 hno hon hk0 hG
 rw [hs0] at HN
 go_enter_defers Tryz.func32,Tryz.ntmps32
 go_wp2_with (first
  |(go_at_call 41;refine HTh.mono ?_;rintro e w1 ⟨rfl,rfl⟩)
  |(go_at_call 72;refine HN.mono ?_;rintro e w2 ⟨p,f,g,rfl,kt,l1,l2,l3,l4,b2⟩;have K2:Hid (Ob.KT w2 p f g (Ob.newX kd a b)/\(w.heap.size+1<=p/\w.heap.size+1<=f/\w.heap.size+1<=g)/\(p < w2.heap.size/\f < w2.heap.size/\g < w2.heap.size)):=⟨kt,⟨l1,l2,l3⟩,l4⟩;have B2:=(show Hid _ from b2);obtain⟨d0,d1,d2⟩:=made_cells b2;clear b2 kt l1 l2 l3 l4)
  |(go_at_call 73;refine(HMy.out _ (by rw [HB.out.2];exact B2.out)).mono ?_;rintro e w3 ⟨rfl,b3⟩;have B3:Hid (Below (w.heap.size+1) (w.alloc (.cells #[.int .u8 kd,.int .u32 a,.int .u32 b] 35)) w3):=B2.out.trans (b3.mono (by have:=B2.out.size;rw [HB.out.2] at this;exact this));have K3:Hid (Below w2.heap.size w2 w3):=b3;obtain⟨f0,f1,f2⟩:=made_cells B3.out;clear b3))
 go_region_held3 (fun w'=>w'.cell? ⟨w.heap.size,0,none⟩=some (.int .u8 kd)/\w'.cell? ⟨w.heap.size,1,none⟩=some (.int .u32 a)/\w'.cell? ⟨w.heap.size,2,none⟩=some (.int .u32 b)) (go_keep) (first
  |(go_at_call 74;refine(Wt.qnew_any w3.drew (B:=fun x=>w3.heap.size<=x) (fun x hx=>hx)).mono ?_;rintro e w4 ⟨rfl,hq,b4⟩;have B4:Hid (Below (w.heap.size+1) (w.alloc (.cells #[.int .u8 kd,.int .u32 a,.int .u32 b] 35)) w4):=(B3.out.trans ((below_drewN w3 1).mono (by have:=B3.out.size;rw [HB.out.2] at this;exact this))).trans (b4.mono (by have:=B3.out.size;rw [HB.out.2] at this;exact this));have K4:Hid (Wt.Qu (fun x=>w3.heap.size<=x) w4 (w3.heap.size+1) []/\Below w3.heap.size w3 w4):=⟨hq,(below_drewN w3 1).trans b4⟩;obtain⟨y0,y1,y2⟩:=made_cells B4.out;clear b4 hq)
  | fail)
 have s2:=B2.out.size
 have s3:=K3.out.size
 have s4:=K4.out.2.size
 rw [HB.out.2] at s2
 have hwa:Below w.heap.size w (w4.alloc (.cells #[.int .u32 0,.int .i64 0,.int .u8 kd,.int .u32 a,.int .u32 b,.pointer (some ⟨p,0,none⟩),.pointer (some ⟨w3.heap.size+1,0,none⟩)] 87)):=(HB.out.1.trans (B4.out.mono (Nat.le_succ _))).trans ((alloc_below w4 _).mono (by omega))
 obtain⟨own,hA,hX,hF⟩:=HS0.out.fresh hwa
 obtain⟨bs,hQ⟩:=K4.out.1
 have hq4:=at_lt hQ.head
 have hal:=alloc_at w4 (.cells #[.int .u32 0,.int .i64 0,.int .u8 kd,.int .u32 a,.int .u32 b,.pointer (some ⟨p,0,none⟩),.pointer (some ⟨w3.heap.size+1,0,none⟩)] 87)
 have hbl:=at_lt hal
 have hbw:Below w4.heap.size w4 (w4.alloc (.cells #[.int .u32 0,.int .i64 0,.int .u8 kd,.int .u32 a,.int .u32 b,.pointer (some ⟨p,0,none⟩),.pointer (some ⟨w3.heap.size+1,0,none⟩)] 87)):=alloc_below w4 _
 have hsw:=HS0.out.size
 obtain⟨g',hg'⟩:∃ g',g'=if kd=3∨kd=5 then g else f:=⟨_,rfl⟩
 have hKT:Ob.KT (w4.alloc (.cells #[.int .u32 0,.int .i64 0,.int .u8 kd,.int .u32 a,.int .u32 b,.pointer (some ⟨p,0,none⟩),.pointer (some ⟨w3.heap.size+1,0,none⟩)] 87)) p f g' (Ob.newX kd a b):=by
  have kt:=(K2.out.1.below (K3.out.trans (K4.out.2.mono s3))).below hbw
  rw [hg']
  by_cases c:kd=3∨kd=5
  ·rw [if_pos c];exact kt
  ·rw [if_neg c];exact kt_g kt c
 have hgl:w.heap.size+1<=g'/\g' < w2.heap.size:=by
  rw [hg']
  by_cases c:kd=3∨kd=5
  ·rw [if_pos c];exact⟨K2.out.2.1.2.2,K2.out.2.2.2.2⟩
  ·rw [if_neg c];exact⟨K2.out.2.1.2.1,K2.out.2.2.2.1⟩
 have hQa:=hQ.below hbw
 have HOut:Hid (∀ wx k1 o,PutX own (w4.alloc (.cells #[.int .u32 0,.int .i64 0,.int .u8 kd,.int .u32 a,.int .u32 b,.pointer (some ⟨p,0,none⟩),.pointer (some ⟨w3.heap.size+1,0,none⟩)] 87)) G wx k1 o w4.heap.size->wx.heap[w4.heap.size]?=some (.cells #[.int .u32 0,.int .i64 0,.int .u8 kd,.int .u32 a,.int .u32 b,.pointer (some ⟨p,0,none⟩),.pointer (some ⟨w3.heap.size+1,0,none⟩)] 87 (0,0))):=fun wx k1 o ⟨o1,q1,q2,q3,q4⟩=>(q4.out _ hbl (hF _ (by omega))).trans hal
 have HL:Hid (∀ wx wy,PutX own (w4.alloc (.cells #[.int .u32 0,.int .i64 0,.int .u8 kd,.int .u32 a,.int .u32 b,.pointer (some ⟨p,0,none⟩),.pointer (some ⟨w3.heap.size+1,0,none⟩)] 87)) G wx { k with oh:=Hd.makeS 32 k.oh } (Hd.fr 32 k.oh) w4.heap.size->wy=sets wx w4.heap.size [(0,.int .u32 (Hd.makeH 32 k.oh:Nat)),(1,.int .i64 (Hd.fr 32 k.oh:Nat))]->St o0 w0 (G.setX (Hd.fr 32 k.oh) w4.heap.size p f g' (w3.heap.size+1)) wy k0):=fun wx wy hx hy=>by
  have hbt:Hd.Buts [w4.heap.size] wx wy:=by rw [hy];exact sets_buts _ _ _
  have hob:=put_ob hx hbt
  have hcx:=HOut.out _ _ _ hx
  have hz:=hx.z (n:=w.heap.size) hF hbl (by omega) hX hsw hbt
  have hout:∀ x,w.heap.size<=x->x < w4.heap.size->x ∉ (w4.heap.size :: untag own (w4.alloc (.cells #[.int .u32 0,.int .i64 0,.int .u8 kd,.int .u32 a,.int .u32 b,.pointer (some ⟨p,0,none⟩),.pointer (some ⟨w3.heap.size+1,0,none⟩)] 87)).heap.size):=fun x c1 c2=>by
   intro c
   rcases List.mem_cons.1 c with c | c
   ·omega
   ·exact untag_no (hF x c1) c
  have hwl:∀ x,x < w4.heap.size->x < (w4.alloc (.cells #[.int .u32 0,.int .i64 0,.int .u8 kd,.int .u32 a,.int .u32 b,.pointer (some ⟨p,0,none⟩),.pointer (some ⟨w3.heap.size+1,0,none⟩)] 87)).heap.size:=fun x c=>Nat.lt_of_lt_of_le c hbw.size
  have l2:=K2.out.2
  have:=hz.done (p:=p) (f:=f) (g:=g') (q:=w3.heap.size+1) (q0:=w3.heap.size) (bs:=bs) (T:=Ob.newX kd a b) (hh:=Hd.makeH 32 k.oh) hsw HGe.out.1 HGe.out.2.1 (HGe.out.2.2.2 _) HGe.out.2.2.1
   (kt_buts hKT hob (hout p (by omega) (by omega)) (fun _=>hout f (by omega) (by omega)) (fun _=>hout g' (by omega) (by omega))) (fun c=>by rw [hg'];exact if_neg c)
   (hQa.keep (hob.block _ (hwl _ hq4) (hout _ (by omega) hq4)) fun x hx=>hob.block x (hwl x (hQ.ch.lt hx)) (hout x (by have e1:w3.heap.size<=x:=hQ.los x hx;omega) (hQ.ch.lt hx)))
   (by rw [hy,sets_at _ hcx];simp [Ob.newX]) HW.out ⟨by omega,by omega,by omega⟩ ⟨by omega,by omega,by omega⟩ hq4 (fun x hx=>hQ.ch.lt hx) hbl
  rw [HK0.out]
  exact this
 have HAA:Hid (St own (w4.alloc (.cells #[.int .u32 0,.int .i64 0,.int .u8 kd,.int .u32 a,.int .u32 b,.pointer (some ⟨p,0,none⟩),.pointer (some ⟨w3.heap.size+1,0,none⟩)] 87)) G (w4.alloc (.cells #[.int .u32 0,.int .i64 0,.int .u8 kd,.int .u32 a,.int .u32 b,.pointer (some ⟨p,0,none⟩),.pointer (some ⟨w3.heap.size+1,0,none⟩)] 87)) k):=hA
 clear hwa hA hX hF hQ hq4 hal hbl hbw hsw hg' hKT hgl hQa s2 s3 s4
 generalize Hd.fr 32 k.oh=o at *
 generalize ({ k with oh:=Hd.makeS 32 k.oh }:Kn)=k1 at *
 go_wp2_with (go_at_call 75;refine(HP.out own _ _ HAA.out).mono ?_;rintro e w5 ⟨rfl,h5⟩;have P5:=(show Hid _ from h5);obtain⟨⟨z0,z1⟩,z2,z3⟩:=zero7 (HOut.out _ _ _ h5);clear h5)
 refine leaves_cons (f:=52) (args:=#[.pointer (some ⟨G.kp,0,none⟩)]) (by simp) (by simp [go_sem]) ?_
 refine(HTell.out (G.setX o w4.heap.size p f g' (w3.heap.size+1)) _ rfl (HL.out _ _ P5.out rfl)).mono ?_
 rintro e u' w'' ⟨rfl,rfl,h9⟩
 exact⟨_,results_tmp2 rfl _ _ _,rfl,G.setX o w4.heap.size p f g' (w3.heap.size+1),⟨rfl,rfl⟩,HGe.out.2.2.2,h9⟩
end
end Go.Proofs.YtbbdndfibjdcfaaGreat
namespace Go.Proofs.YtbbdndfibjdcfaaGreat
open Go Go.RowKit
theorem kwh:Maps.Keyed Tryz.prog 36:=Maps.int_keyed Tryz.underlying36
theorem zeroDo(w:World):(zeroValue 154).run Tryz.prog w=.ok .nilFunc w:=by kernel_rfl
def fnE(v:Value):Option (DataW Unit×List MemPlace) :=
 match v with
 | .nilFunc=>some (.lit (.int .i64 (-1)),[])
 | .func (.func n) fs cs=>if fs.size=0/\cs.size=0 then some (.lit (.int .i64 n),[]) else none
 | _=>none
theorem fnE_mk(n:Nat):fnE (.func (.func n) #[] #[])=some (.lit (.int .i64 n),[]):=by simp [fnE]
theorem fnE_inv{v:Value}{n:Nat}{ps:List MemPlace}(h:fnE v=some (.lit (.int .i64 n),ps)):v=.func (.func n) #[] #[]:=by
 unfold fnE at h
 split at h
 ·simp at h
 ·rename_i m fs cs
  split at h
  ·rename_i hc
   simp at h
   have e4:m=n:=Int.ofNat_inj.mp h.1
   have e1:fs=#[]:=Array.eq_empty_of_size_eq_zero hc.1
   have e2:cs=#[]:=Array.eq_empty_of_size_eq_zero hc.2
   rw [e1,e2,e4]
  ·cases h
 ·cases h
def W8(z:Int):Prop:=0<=z/\z<=255
theorem W8.key{z:Int}(h:W8 z):keyOf Tryz.prog 36 (.int .u8 z)=some (.int .u8 z):=Maps.keyOf_int_mk Tryz.underlying36 (WalkArith.wf_u8 h)
theorem W8.lit{z:Int}(h:W8 z):WideAt.IsKeyLit (.int .u8 z):=kwh.key h.key
theorem lit8_ne{a b:Int}(h:a≠b):(Lit.int .u8 a)≠Lit.int .u8 b:=fun e=>h (by injection e)
structure FM (w:World) (mb n:Nat) (f:Int->Option Nat) (D:DataW Unit):Prop where
 own:w.ownsMap Tryz.prog 36 fnE mb n D
 has:∀ z,W8 z->Maps.has D (.int .u8 z)=(f z).isSome
 at_:∀ z g,W8 z->f z=some g->D.atKey (.int .u8 z) (.lit (.int .i64 (-1)))=.lit (.int .i64 g)
def FMp(w:World)(mb n:Nat)(f:Int->Option Nat):Prop:=∃ D,FM w mb n f D
def putF(f:Int->Option Nat)(z:Int)(g:Nat):Int->Option Nat:=fun y=>if y=z then some g else f y
theorem FMp.made(w:World):FMp (w.alloc (.map #[] 0)) w.heap.size 0 (fun _=>none) :=
 ⟨.map [],World.ownsMap_made _ _ _ _,fun z _=>rfl,fun z g _ h=>(by cases h)⟩
theorem wpList_insert_fm{w:World}{ops:Array Oper}{rest:List Oper}{o:Oper}{a:Go.Act}{Q:Exit->Go.Act->World->Prop}(hg:o.guard=none)(m x v:Operand)(hop:o.op=Op.insert 156 m x v)
  {mb n:Nat} {f:Int->Option Nat} (h:FMp w mb n f) (hn:n<=100000) (hm:a.eval m=.map (some mb)) {z:Int} {g:Nat} (hx:a.eval x=.int .u8 z) (hv:a.eval v=.func (.func g) #[] #[]) (hw:W8 z)
  (hK:∀ w',Hid (FMp w' mb (n+1) (putF f z g))->Hid (Hd.Buts [mb] w w')->wpList Tryz.prog ops Q rest (a.put o.dst undef) w'):wpList Tryz.prog ops Q (o :: rest) a w:=by
 obtain⟨D,h1,h2,h3⟩:=h
 refine wpList_plain hg fun K' hK'=>?_
 obtain⟨w',hrun,h4,h5⟩:=h1.update (t:=156) kwh Tryz.underlying156 (by unfold maxLen;omega) hw.key (fnE_mk g)
 unfold Oper.wp
 simp [execOp,hop,hm,hx,hv,hrun,Result.andThen]
 refine hK' _ _ (hK w' ⟨_,h4,fun y hy=>?_,fun y k hy e=>?_⟩ (show Hd.Buts [mb] w w' by simpa using Hd.Buts.grown h5))
 ·unfold putF
  by_cases c:y=z
  ·subst c
   rw [Maps.has_put_same h1.isMap hy.lit,if_pos rfl];rfl
  ·rw [Maps.has_put_other (lit8_ne c),h2 y hy,if_neg c]
 ·unfold putF at e
  by_cases c:y=z
  ·subst c
   rw [if_pos rfl] at e
   cases e
   exact Maps.atKey_put_same h1.isMap hy.lit _ _
  ·rw [if_neg c] at e
   rw [Maps.atKey_put_other (lit8_ne c)]
   exact h3 y k hy e
theorem look_run{w:World}{mb n:Nat}{f:Int->Option Nat}(h:FMp w mb n f){z:Int}(hw:W8 z){g:Nat}(hf:f z=some g):(Instr.lookup 156 (.map (some mb)) (.int .u8 z) true).run Tryz.prog w=.ok (.tuple #[.func (.func g) #[] #[],.bool true]) w:=by
 obtain⟨D,h1,h2,h3⟩:=h
 obtain⟨v,ps,hr,hv⟩:=h1.look_ok (t:=156) kwh Tryz.underlying156 (zeroDo _) (zd:=.lit (.int .i64 (-1))) (zp:=[]) rfl hw.key
 rw [h2 z hw,hf] at hr
 rw [h3 z g hw hf] at hv
 rw [fnE_inv hv] at hr
 exact hr
theorem look_run_no{w:World}{mb n:Nat}{f:Int->Option Nat}(h:FMp w mb n f){z:Int}(hw:W8 z)(hf:f z=none):∃ v,(Instr.lookup 156 (.map (some mb)) (.int .u8 z) true).run Tryz.prog w=.ok (.tuple #[v,.bool false]) w:=by
 obtain⟨D,h1,h2,h3⟩:=h
 obtain⟨v,ps,hr,hv⟩:=h1.look_ok (t:=156) kwh Tryz.underlying156 (zeroDo _) (zd:=.lit (.int .i64 (-1))) (zp:=[]) rfl hw.key
 rw [h2 z hw,hf] at hr
 exact⟨v,hr⟩
def doF(z:Int):Option Nat:=if z < 1∨20 < z then none else if z=1 then some 116 else if z=2 then some 117 else if z=16 then some 119 else if z=17 then some 120 else if z=18 then some 121 else if z=19 then some 122 else if z=20 then some 123 else some 118
theorem FMp.congr{w:World}{mb n:Nat}{f g:Int->Option Nat}(h:FMp w mb n f)(he:∀ z,W8 z->g z=f z):FMp w mb n g:=by
 obtain⟨D,h1,h2,h3⟩:=h
 exact⟨D,h1,fun z hz=>by rw [he z hz];exact h2 z hz,fun z k hz e=>h3 z k hz (by rw [←he z hz];exact e)⟩
theorem doings_any(w:World):Calls Tryz.prog 76 #[] w fun e w'=>e=.returned (.map (some w.heap.size))/\FMp w' w.heap.size 20 doF/\Below w.heap.size w w':=by
 have hmm:=@run_makeMap Tryz.prog
 have F0:Hid (FMp (w.alloc (.map #[] 0)) w.heap.size 0 (fun _=>none)):=FMp.made w
 have B0:Hid (Below w.heap.size w (w.alloc (.map #[] 0))):=alloc_below w _
 go_enter Tryz.func76,Tryz.ntmps76
 go_wp2_with (first
  |(refine wpList_insert_fm rfl (.tmp 1) (.const (.int .u8 20)) (.func 123) rfl F19.out (by omega) rfl (z:=20) (g:=123) rfl rfl (by unfold W8;omega) ?_;intro w20 F20 C20;have B20:Hid (Below w.heap.size w w20):=B19.out.trans (C20.out.below (by simp) B19.out.size);clear C20 B19 F19)
  |(refine wpList_insert_fm rfl (.tmp 1) (.const (.int .u8 19)) (.func 122) rfl F18.out (by omega) rfl (z:=19) (g:=122) rfl rfl (by unfold W8;omega) ?_;intro w19 F19 C19;have B19:Hid (Below w.heap.size w w19):=B18.out.trans (C19.out.below (by simp) B18.out.size);clear C19 B18 F18)
  |(refine wpList_insert_fm rfl (.tmp 1) (.const (.int .u8 18)) (.func 121) rfl F17.out (by omega) rfl (z:=18) (g:=121) rfl rfl (by unfold W8;omega) ?_;intro w18 F18 C18;have B18:Hid (Below w.heap.size w w18):=B17.out.trans (C18.out.below (by simp) B17.out.size);clear C18 B17 F17)
  |(refine wpList_insert_fm rfl (.tmp 1) (.const (.int .u8 17)) (.func 120) rfl F16.out (by omega) rfl (z:=17) (g:=120) rfl rfl (by unfold W8;omega) ?_;intro w17 F17 C17;have B17:Hid (Below w.heap.size w w17):=B16.out.trans (C17.out.below (by simp) B16.out.size);clear C17 B16 F16)
  |(refine wpList_insert_fm rfl (.tmp 1) (.const (.int .u8 16)) (.func 119) rfl F15.out (by omega) rfl (z:=16) (g:=119) rfl rfl (by unfold W8;omega) ?_;intro w16 F16 C16;have B16:Hid (Below w.heap.size w w16):=B15.out.trans (C16.out.below (by simp) B15.out.size);clear C16 B15 F15)
  |(refine wpList_insert_fm rfl (.tmp 1) (.const (.int .u8 15)) (.func 118) rfl F14.out (by omega) rfl (z:=15) (g:=118) rfl rfl (by unfold W8;omega) ?_;intro w15 F15 C15;have B15:Hid (Below w.heap.size w w15):=B14.out.trans (C15.out.below (by simp) B14.out.size);clear C15 B14 F14)
  |(refine wpList_insert_fm rfl (.tmp 1) (.const (.int .u8 14)) (.func 118) rfl F13.out (by omega) rfl (z:=14) (g:=118) rfl rfl (by unfold W8;omega) ?_;intro w14 F14 C14;have B14:Hid (Below w.heap.size w w14):=B13.out.trans (C14.out.below (by simp) B13.out.size);clear C14 B13 F13)
  |(refine wpList_insert_fm rfl (.tmp 1) (.const (.int .u8 13)) (.func 118) rfl F12.out (by omega) rfl (z:=13) (g:=118) rfl rfl (by unfold W8;omega) ?_;intro w13 F13 C13;have B13:Hid (Below w.heap.size w w13):=B12.out.trans (C13.out.below (by simp) B12.out.size);clear C13 B12 F12)
  |(refine wpList_insert_fm rfl (.tmp 1) (.const (.int .u8 12)) (.func 118) rfl F11.out (by omega) rfl (z:=12) (g:=118) rfl rfl (by unfold W8;omega) ?_;intro w12 F12 C12;have B12:Hid (Below w.heap.size w w12):=B11.out.trans (C12.out.below (by simp) B11.out.size);clear C12 B11 F11)
  |(refine wpList_insert_fm rfl (.tmp 1) (.const (.int .u8 11)) (.func 118) rfl F10.out (by omega) rfl (z:=11) (g:=118) rfl rfl (by unfold W8;omega) ?_;intro w11 F11 C11;have B11:Hid (Below w.heap.size w w11):=B10.out.trans (C11.out.below (by simp) B10.out.size);clear C11 B10 F10)
  |(refine wpList_insert_fm rfl (.tmp 1) (.const (.int .u8 10)) (.func 118) rfl F9.out (by omega) rfl (z:=10) (g:=118) rfl rfl (by unfold W8;omega) ?_;intro w10 F10 C10;have B10:Hid (Below w.heap.size w w10):=B9.out.trans (C10.out.below (by simp) B9.out.size);clear C10 B9 F9)
  |(refine wpList_insert_fm rfl (.tmp 1) (.const (.int .u8 9)) (.func 118) rfl F8.out (by omega) rfl (z:=9) (g:=118) rfl rfl (by unfold W8;omega) ?_;intro w9 F9 C9;have B9:Hid (Below w.heap.size w w9):=B8.out.trans (C9.out.below (by simp) B8.out.size);clear C9 B8 F8)
  |(refine wpList_insert_fm rfl (.tmp 1) (.const (.int .u8 8)) (.func 118) rfl F7.out (by omega) rfl (z:=8) (g:=118) rfl rfl (by unfold W8;omega) ?_;intro w8 F8 C8;have B8:Hid (Below w.heap.size w w8):=B7.out.trans (C8.out.below (by simp) B7.out.size);clear C8 B7 F7)
  |(refine wpList_insert_fm rfl (.tmp 1) (.const (.int .u8 7)) (.func 118) rfl F6.out (by omega) rfl (z:=7) (g:=118) rfl rfl (by unfold W8;omega) ?_;intro w7 F7 C7;have B7:Hid (Below w.heap.size w w7):=B6.out.trans (C7.out.below (by simp) B6.out.size);clear C7 B6 F6)
  |(refine wpList_insert_fm rfl (.tmp 1) (.const (.int .u8 6)) (.func 118) rfl F5.out (by omega) rfl (z:=6) (g:=118) rfl rfl (by unfold W8;omega) ?_;intro w6 F6 C6;have B6:Hid (Below w.heap.size w w6):=B5.out.trans (C6.out.below (by simp) B5.out.size);clear C6 B5 F5)
  |(refine wpList_insert_fm rfl (.tmp 1) (.const (.int .u8 5)) (.func 118) rfl F4.out (by omega) rfl (z:=5) (g:=118) rfl rfl (by unfold W8;omega) ?_;intro w5 F5 C5;have B5:Hid (Below w.heap.size w w5):=B4.out.trans (C5.out.below (by simp) B4.out.size);clear C5 B4 F4)
  |(refine wpList_insert_fm rfl (.tmp 1) (.const (.int .u8 4)) (.func 118) rfl F3.out (by omega) rfl (z:=4) (g:=118) rfl rfl (by unfold W8;omega) ?_;intro w4 F4 C4;have B4:Hid (Below w.heap.size w w4):=B3.out.trans (C4.out.below (by simp) B3.out.size);clear C4 B3 F3)
  |(refine wpList_insert_fm rfl (.tmp 1) (.const (.int .u8 3)) (.func 118) rfl F2.out (by omega) rfl (z:=3) (g:=118) rfl rfl (by unfold W8;omega) ?_;intro w3 F3 C3;have B3:Hid (Below w.heap.size w w3):=B2.out.trans (C3.out.below (by simp) B2.out.size);clear C3 B2 F2)
  |(refine wpList_insert_fm rfl (.tmp 1) (.const (.int .u8 2)) (.func 117) rfl F1.out (by omega) rfl (z:=2) (g:=117) rfl rfl (by unfold W8;omega) ?_;intro w2 F2 C2;have B2:Hid (Below w.heap.size w w2):=B1.out.trans (C2.out.below (by simp) B1.out.size);clear C2 B1 F1)
  |(refine wpList_insert_fm rfl (.tmp 1) (.const (.int .u8 1)) (.func 116) rfl F0.out (by omega) rfl (z:=1) (g:=116) rfl rfl (by unfold W8;omega) ?_;intro w1 F1 C1;have B1:Hid (Below w.heap.size w w1):=B0.out.trans (C1.out.below (by simp) B0.out.size);clear C1 B0 F0))
 go_ret
 refine⟨rfl,F20.out.congr fun z hz=>?_,B20.out⟩
 have hc:(z < 1∨20 < z)∨z=1∨z=2∨z=3∨z=4∨z=5∨z=6∨z=7∨z=8∨z=9∨z=10∨z=11∨z=12∨z=13∨z=14∨z=15∨z=16∨z=17∨z=18∨z=19∨z=20:=by omega
 rcases hc with h | rfl | rfl | rfl | rfl | rfl | rfl | rfl | rfl | rfl | rfl | rfl | rfl | rfl | rfl | rfl | rfl | rfl | rfl | rfl | rfl
 ·unfold doF
  rw [if_pos h]
  simp only [putF]
  repeat rw [if_neg (by omega)]
 all_goals rfl
end Go.Proofs.YtbbdndfibjdcfaaGreat
namespace Go.Proofs.YtbbdndfibjdcfaaGreat
open Go Go.RowKit
theorem Ends.put{ts:Nat->Option Ta}{wc:Int}{ys:List (Int×Int)}(h:Ends ts wc ys){i:Nat}{t t':Ta}(ht:ts i=some t)(hl:t.left<=0)(h0:0 < t'.left)(hs:t'.since=wc):Ends (set1 ts i (some t')) (wc+1) (ys ++ [((i:Int),t'.left)]):=by
 have f:∀ j u,set1 ts i (some t') j=some u->(j=i/\u=t')∨(j≠i/\ts j=some u):=fun j u hu=>by
  by_cases e:j=i
  ·subst e
   rw [set1_at] at hu
   exact Or.inl ⟨rfl,(Option.some.inj hu).symm⟩
  ·rw [set1_ne _ _ e] at hu;exact Or.inr ⟨e,hu⟩
 have hne:∀ j u,ts j=some u->0 < u.left->j≠i:=fun j u hu h1 e=>by
  subst e;rw [ht] at hu;cases hu;omega
 refine⟨fun y=>?_,?_,fun j u hu h1=>?_⟩
 ·rw [List.mem_append,h.mem y]
  constructor
  ·rintro (⟨j,u,e,hu,h1⟩ | c)
   ·exact⟨j,u,e,by rw [set1_ne _ _ (hne j u hu h1)];exact hu,h1⟩
   ·obtain rfl:y=((i:Int),t'.left):=by simpa using c
    exact⟨i,t',rfl,set1_at _ _ _,h0⟩
  ·rintro ⟨j,u,e,hu,h1⟩
   rcases f j u hu with⟨rfl,rfl⟩ |⟨_,hu⟩
   ·exact Or.inr (by rw [e];simp)
   ·exact Or.inl ⟨j,u,e,hu,h1⟩
 ·rw [List.pairwise_append]
  refine⟨?_,List.pairwise_singleton _ _,?_⟩
  ·refine(List.Pairwise.and_mem.1 h.ord).imp fun {a b} ⟨ha,hb,hab⟩ s u hs' hu=>?_
   obtain⟨j,v,ea,hv,hl1⟩:=(h.mem a).1 ha
   obtain⟨l,z,eb,hz,hl2⟩:=(h.mem b).1 hb
   subst ea eb
   simp only [Int.toNat_natCast] at hs' hu
   rw [set1_ne _ _ (hne j v hv hl1)] at hs'
   rw [set1_ne _ _ (hne l z hz hl2)] at hu
   exact hab s u (by simpa using hs') (by simpa using hu)
  ·intro a ha b hb s u hs' hu
   obtain rfl:b=((i:Int),t'.left):=by simpa using hb
   obtain⟨j,v,ea,hv,hl1⟩:=(h.mem a).1 ha
   subst ea
   simp only [Int.toNat_natCast] at hs' hu
   rw [set1_ne _ _ (hne j v hv hl1),hv] at hs'
   rw [set1_at] at hu
   cases hs'
   cases hu
   have:=h.top j s hv hl1
   omega
 ·rcases f j u hu with⟨rfl,rfl⟩ |⟨_,hu⟩
  ·omega
  ·have:=h.top j u hu h1
   omega
theorem Ends.later{ts:Nat->Option Ta}{wc:Int}{ys:List (Int×Int)}(h:Ends ts wc ys){i:Nat}{t t':Ta}(ht:ts i=some t)(hl:t.left<=0)(hl':t'.left<=0):Ends (set1 ts i (some t')) (wc+1) ys:=by
 have f:∀ j u,set1 ts i (some t') j=some u->0 < u.left->j≠i/\ts j=some u:=fun j u hu h1=>by
  by_cases e:j=i
  ·subst e
   rw [set1_at] at hu
   cases hu
   omega
  ·rw [set1_ne _ _ e] at hu;exact⟨e,hu⟩
 have hne:∀ j u,ts j=some u->0 < u.left->j≠i:=fun j u hu h1 e=>by
  subst e;rw [ht] at hu;cases hu;omega
 refine⟨fun y=>?_,(List.Pairwise.and_mem.1 h.ord).imp fun {a b} ⟨ha,hb,hab⟩ s u hs' hu=>?_,fun j u hu h1=>by have:=h.top j u (f j u hu h1).2 h1;omega⟩
 ·rw [h.mem y]
  constructor
  ·rintro ⟨j,u,e,hu,h1⟩
   exact⟨j,u,e,by rw [set1_ne _ _ (hne j u hu h1)];exact hu,h1⟩
  ·rintro ⟨j,u,e,hu,h1⟩
   exact⟨j,u,e,(f j u hu h1).2,h1⟩
 ·obtain⟨j,v,ea,hv,hl1⟩:=(h.mem a).1 ha
  obtain⟨l,z,eb,hz,hl2⟩:=(h.mem b).1 hb
  subst ea eb
  simp only [Int.toNat_natCast] at hs' hu
  rw [set1_ne _ _ (hne j v hv hl1)] at hs'
  rw [set1_ne _ _ (hne l z hz hl2)] at hu
  exact hab s u (by simpa using hs') (by simpa using hu)
theorem Ends.few{ts:Nat->Option Ta}{wc:Int}{ys:List (Int×Int)}(h:Ends ts wc ys)(hk:Tm.Keys ys)(hi:∀ i t,ts i=some t->i < 16):ys.length<=16:=by
 rw [←List.length_map (f:=Prod.fst)]
 refine pigeon 16 _ hk fun x hx=>?_
 obtain⟨y,hy,e⟩:=List.mem_map.1 hx
 obtain⟨j,u,e2,hu,_⟩:=(h.mem y).1 hy
 have:=hi j u hu
 rw [←e,e2]
 simp only
 omega
section
variable {o0:Nat->Nat} {w0 w w':World} {G:Geo} {k:Kn}
theorem k_dput(h:St o0 w0 G w k){i:Nat}{t:Ta}(ht:k.ts i=some t)(hl0:t.left<=0)(n:Int)(hn:1<=n/\n<=1073741824):Calls Tryz.prog 131 #[.pointer (some ⟨G.ep,0,none⟩),.int .i64 i,.int .i64 n] w fun e w'=>(∃ x,e=.returned (.int .i64 x))/\St o0 w0 G w' { k with ts:=set1 k.ts i (some { t with left:=n,since:=k.wc }),wc:=k.wc+1 }:=by
 obtain⟨own,h,x⟩:=h
 obtain⟨h1,v,ys,h2,h3,h4⟩:=h.en (by decide)
 have hfew:=h4.few h3.good.keys h.ti
 have hno:Tm.has ys (i:Int)=false:=Tm.has_no.2 fun y hy e=>by
  obtain⟨j,u,e2,hu,hl⟩:=(h4.mem y).1 hy
  subst e2
  have:j=i:=by have e':(j:Int)=i:=e;omega
  subst this
  rw [ht] at hu;cases hu;omega
 have hbad:¬ Tm.badArg (i:Int) n:=by unfold Tm.badArg;omega
 have hpl:Tm.putL ys (i:Int) n=ys ++ [((i:Int),n)]:=by unfold Tm.putL;rw [if_neg hbad,hno];rfl
 refine(Tm.put_is h3 i n (by omega) (Nat.zero_le _)).mono fun e w' ⟨he,v',hl,hb,hv⟩=>?_
 rw [hpl] at hl
 have hoff:=off_nt hb h1 h2
 refine⟨⟨_,he⟩,_,(h.off hoff).shutEn (ts:=set1 k.ts i (some { t with left:=n,since:=k.wc })) (wc:=k.wc+1) (fun j=>?_) ((ext_cl (Cl.of hl.ch.head) (at_lt h3.ch.head)).trans h1) (fun g hg=>?_) hl (h4.put ht hl0 (show(0:Int) < n by omega) rfl),x.trans (hoff.ext (by decide))⟩
 ·by_cases e:j=i
  ·subst e;rw [set1_at,ht];rfl
  ·rw [set1_ne _ _ e]
 ·rcases hv g hg with c | c
  ·exact(ext_cl (own_cl hl.ch.own hg) (h3.ch.own.lt' c).2).trans (h2 g c)
  ·exact ext_new (own_cl hl.ch.own hg) c
theorem St.later(h:St o0 w0 G w k){i:Nat}{t:Ta}(ht:k.ts i=some t)(hl0:t.left<=0)(l s:Int)(hl:l<=0):St o0 w0 G w { k with ts:=set1 k.ts i (some { t with left:=l,since:=s }),wc:=k.wc+1 }:=by
 obtain⟨own,h,x⟩:=h
 obtain⟨h1,v,ys,h2,h3,h4⟩:=h.en (by decide)
 have hb:=Below.refl w.heap.size w
 have hoff:Off own 7 w w:=off_of hb
 refine⟨_,(h.off hoff).shutEn (ts:=set1 k.ts i (some { t with left:=l,since:=s })) (wc:=k.wc+1) (fun j=>?_) ((ext_cl (Cl.of h3.ch.head) (at_lt h3.ch.head)).trans h1) (fun g hg=>?_) h3 (h4.later ht hl0 hl),x.trans (hoff.ext (by decide))⟩
 ·by_cases e:j=i
  ·subst e;rw [set1_at,ht];rfl
  ·rw [set1_ne _ _ e]
 ·exact(ext_cl (own_cl h3.ch.own hg) (h3.ch.own.lt' hg).2).trans (h2 g hg)
theorem startL_in{zs:List (Int×Int×Int)}{who i e:Int}{z:Int×Int×Int}(h:z∈Tm.startL zs who i e):z∈zs∨z=(who,i,e):=by
 unfold Tm.startL at h
 split at h
 ·rcases List.mem_append.1 h with c | c
  ·exact Or.inl (off_in _ _ z c)
  ·exact Or.inr (by simpa using c)
 ·exact Or.inl h
theorem k_astart(h:St o0 w0 G w k)(hn:G.an<=100000){o:Nat}{x:Th}(hx:k.os o=some x)(hl:k.al.length < 1000)(i e:Int):Calls Tryz.prog 165 #[.pointer (some ⟨G.ap,0,none⟩),.int .i64 (o:Nat),.int .i64 i,.int .i64 e] w fun y w'=>y=.returned (.int .i64 (Tm.startE (o:Int) i e))/\St o0 w0 { G with an:=G.an+1 } w' { k with al:=Tm.startL k.al (o:Int) i e }:=by
 have ho:=h.oi hx
 obtain⟨own,h,y⟩:=h
 obtain⟨h1,h2,h3,v,h4,ha⟩:=h.al (by decide)
 refine(Tm.start_is ha (who:=(o:Int)) (by unfold Tm.S64;omega) i e hl hn (Nat.zero_le _)).mono fun r w' ⟨he,v',hA,hb,hv⟩=>⟨he,?_⟩
 refine⟨_,KX.alarm (n:=G.an+1) (gl:=w'.heap.size) h (fun z hz=>?_) h1 h2 h3 h4 ha hA hb hv (off_nx hb h2 h3 h4).size (fun g hg=>by have:=(hA.ax.ls.ch.own.lt' hg).2;omega),y.trans ((off_nx hb h2 h3 h4).extG (by decide) (off_nx hb h2 h3 h4).size)⟩
 rcases startL_in hz with c | c
 ·exact h.xs.al z c
 ·subst c
  exact⟨by simp only;omega,x,by simpa using hx⟩
theorem k_astopv(h:St o0 w0 G w k){o:Nat}(ho:o < 32):Calls Tryz.prog 53 #[.pointer (some ⟨G.ap,0,none⟩),.int .i64 (o:Nat)] w fun e w'=>e=.returned (.int .i64 (Tm.stopE k.al (o:Int)))/\St o0 w0 G w' { k with al:=Tm.off k.al (o:Int) }:=by
 obtain⟨own,h,x⟩:=h
 obtain⟨h1,h2,h3,v,h4,ha⟩:=h.al (by decide)
 refine(Tm.stop_is ha (who:=(o:Int)) (by unfold Tm.S64;omega)).mono fun e w' ⟨he,v',hA,hb,hv⟩=>⟨he,?_⟩
 exact⟨_,KX.alarm (n:=G.an) (gl:=w'.heap.size) h (fun z hz=>h.xs.al z (off_in _ _ z hz)) h1 h2 h3 h4 ha hA hb hv (off_nx hb h2 h3 h4).size (fun g hg=>by have:=(hA.ax.ls.ch.own.lt' hg).2;omega),x.trans ((off_nx hb h2 h3 h4).extG (by decide) (off_nx hb h2 h3 h4).size)⟩
theorem St.few(h:St o0 w0 G w k):k.al.length<=32:=by
 have hx:=h.xs
 have ho:∀ o x,k.os o=some x->o < 32:=fun o x hx=>h.oi hx
 obtain⟨own,h,_⟩:=h
 obtain⟨_,_,_,v,_,ha⟩:=h.al (by decide)
 have hk:((Tm.two k.al).map Prod.fst).Nodup:=ha.fine.good.keys
 have e:((Tm.two k.al).map Prod.fst).length=k.al.length:=by simp [Tm.two]
 rw [←e]
 refine pigeon 32 _ hk fun z hz=>?_
 obtain⟨y,hy,e1⟩:=List.mem_map.1 hz
 obtain⟨q,hq,e2⟩:=List.mem_map.1 hy
 obtain⟨a1,x,a2⟩:=hx.al q hq
 have:=ho _ x a2
 have e3:z=q.1:=by rw [←e1,←e2];rfl
 omega
end
end Go.Proofs.YtbbdndfibjdcfaaGreat
namespace Go.Proofs.YtbbdndfibjdcfaaGreat
open Go Go.RowKit
abbrev aqC(a:Aq):Array Value:=#[.int .u8 a.wh,.int .u32 (a.ah:Nat),.int .u32 (a.av:Nat),.int .u32 (a.am:Nat),.int .i64 a.aw]
abbrev aqV(a:Aq):Value:=.agg #[.int .u8 a.wh,.int .u32 (a.ah:Nat),.int .u32 (a.av:Nat),.int .u32 (a.am:Nat),.int .i64 a.aw]
structure Rn (k:Kn) (i:Nat) (t:Ta):Prop where
 core:Core k 0 NoD
 ht:k.ts i=some t
 st:t.st=1
 held:t.held=false
theorem Rn.idle{k:Kn}{i:Nat}{t:Ta}(h:Rn k i t):t.on=-1/\t.left=0:=by
 obtain⟨a,_,_,_,_,_,b⟩:=(h.core.tOk i t h.ht).idle (by rw [h.st];decide)
 exact⟨a,b⟩
noncomputable def aft1(k2:Kn)(e:Int)(a:Aq):Kn:=if e=0/\Hd.placeE k2.oh a.ah=0 then(match k2.os (Hd.placeP k2.oh a.ah) with | some x=>if Ob.Tk.fitB a.wh x.x.k=true then serve k2 (Hd.placeP k2.oh a.ah) else k2 | none=>k2) else k2
theorem aft1_none{k2:Kn}{e:Int}{a:Aq}(h0:Ob.Tk.kd a.wh=0):aft1 k2 e a=k2:=by
 have hf:∀ z,¬ (Ob.Tk.fitB a.wh z=true):=fun z c=>by
  rw [Ob.Tk.fitB_iff] at c
  omega
 unfold aft1
 split
 ·split
  ·rw [if_neg (hf _)]
  ·rfl
 ·rfl
theorem aft1_err{k2:Kn}{e:Int}{a:Aq}(h0:e≠0):aft1 k2 e a=k2:=if_neg (fun c=>h0 c.1)
noncomputable def askS(k:Kn)(i:Nat)(t:Ta)(a:Aq):Kn :=
 let r:=ask1 k i t a
 if r.1 then
  let k1:=answer r.2.2.2 i r.2.2.1 r.2.1
  aft1 (if a.wh=1 then join k1 i else k1) r.2.2.1 a
 else r.2.2.2
theorem askS_yes{k:Kn}{i:Nat}{t:Ta}{a:Aq}{v e:Int}{k':Kn}(h:ask1 k i t a=(true,v,e,k'))(h1:a.wh≠1):askS k i t a=aft1 (answer k' i e v) e a:=by
 unfold askS
 rw [h]
 simp only [if_true]
 rw [if_neg h1]
theorem askS_none{k:Kn}{i:Nat}{t:Ta}{a:Aq}(h0:Ob.Tk.kd a.wh=0)(h1:(ask1 k i t a).1=true):askS k i t a=if a.wh=1 then join (answer (ask1 k i t a).2.2.2 i (ask1 k i t a).2.2.1 (ask1 k i t a).2.1) i else answer (ask1 k i t a).2.2.2 i (ask1 k i t a).2.2.1 (ask1 k i t a).2.1:=by
 unfold askS
 simp only [h1,if_true]
 exact aft1_none h0
theorem askS_wait{k:Kn}{i:Nat}{t:Ta}{a:Aq}(h1:(ask1 k i t a).1=false):askS k i t a=(ask1 k i t a).2.2.2:=by
 unfold askS
 simp only [h1]
 rfl
section
variable {o0:Nat->Nat} {w0 w w':World} {G:Geo} {k:Kn}
theorem asked_cells{w wx:World}{a:Aq}(hb:Below (w.heap.size+1) (w.alloc (.cells (aqC a) 38)) wx):wx.cell? ⟨w.heap.size,0,none⟩=some (.int .u8 a.wh)/\wx.cell? ⟨w.heap.size,1,none⟩=some (.int .u32 (a.ah:Nat))/\wx.cell? ⟨w.heap.size,2,none⟩=some (.int .u32 (a.av:Nat))/\wx.cell? ⟨w.heap.size,3,none⟩=some (.int .u32 (a.am:Nat))/\wx.cell? ⟨w.heap.size,4,none⟩=some (.int .i64 a.aw):=by
 have h:=(hb.block w.heap.size (Nat.lt_succ_self _)).trans (alloc_at w (.cells (aqC a) 38))
 refine⟨?_,?_,?_,?_,?_⟩
 all_goals rw [cell_of h];rfl
theorem reply_any(h:St o0 w0 G w k){i:Nat}{t:Ta}(hr:Rn k i t)(er v:Int):Calls Tryz.prog 161 #[.pointer (some ⟨G.kp,0,none⟩),.pointer (some ⟨G.tp i,0,none⟩),.int .i64 er,.int .u32 v] w fun e w'=>e=.returned (.tuple #[.bool true,.int .i64 er])/\St o0 w0 G w' (answer k i er v):=by
 have HA:=answer_any h hr.ht (fun c=>by have:=hr.idle.1;omega) er v
 rw [hr.core.answerC hr.ht] at HA
 clear h hr
 generalize answer k i er v=k1 at *
 go_enter Tryz.func161,Tryz.ntmps161
 go_wp2_with (go_at_call 56;refine HA.mono ?_;rintro e w1 ⟨rfl,h1⟩;have S1:Hid (St o0 w0 G w1 k1):=h1;clear h1)
 go_ret2
 exact⟨rfl,S1.out⟩
theorem yield_comm{i:Nat}{t:Ta}(ht:k.ts i=some t)(hs:t.st=1)(e v:Int):answer (join k i) i e v=join (answer k i e v) i:=by
 have h2:¬ t.st=2:=by rw [hs];decide
 have e1:join k i={ k with rd:=Rd.putX (Rd.rmX k.rd (i:Int)) (i:Int) t.rank,ts:=set1 k.ts i (some { t with ran:=0 }) }:=by unfold YtbbdndfibjdcfaaGreat.join;rw [ht]
 have e2:answer k i e v=k.setT i (t.told e v):=by unfold answer;simp only [ht];rw [if_neg h2]
 rw [e1,e2]
 unfold answer YtbbdndfibjdcfaaGreat.join
 simp only [set1_at,Kn.setT]
 rw [if_neg h2]
 simp only [set1_set1]
 rfl
theorem yield_any(h:St o0 w0 G w k){i:Nat}{t:Ta}(hr:Rn k i t)(a:Aq)(ha:a.wh=1):Calls Tryz.prog 116 #[.pointer (some ⟨G.kp,0,none⟩),.pointer (some ⟨G.tp i,0,none⟩),aqV a] w fun e w'=>e=.returned (.tuple #[.bool (ask1 k i t a).1,.int .i64 (ask1 k i t a).2.2.1])/\St o0 w0 G w' (askS k i t a):=by
 have e1:ask1 k i t a=(true,0,0,k):=by unfold ask1;rw [if_pos ha]
 have e2:askS k i t a=join (answer k i 0 0) i:=by
  rw [askS_none (by rw [ha];decide) (by rw [e1]),if_pos ha,e1]
 rw [e2,e1,←yield_comm hr.ht hr.st]
 have hm:t.may=true:=by unfold Ta.may;rw [hr.st,hr.held];rfl
 have HJ:=join_any (h.below (alloc_below w (.cells (aqC a) 38))) hr.ht
 rw [joinC_eq hr.ht,if_pos hm] at HJ
 have hj:join k i={ k with rd:=Rd.putX (Rd.rmX k.rd (i:Int)) (i:Int) t.rank,ts:=set1 k.ts i (some { t with ran:=0 }) }:=by unfold YtbbdndfibjdcfaaGreat.join;rw [hr.ht]
 have hr2:Rn (join k i) i { t with ran:=0 }:=⟨hr.core.join hr.ht hr.st hr.held,by rw [hj];exact set1_at _ _ _,hr.st,hr.held⟩
 have HR:Hid (∀ wx,St o0 w0 G wx (join k i)->Calls Tryz.prog 161 #[.pointer (some ⟨G.kp,0,none⟩),.pointer (some ⟨G.tp i,0,none⟩),.int .i64 0,.int .u32 0] wx fun e w'=>e=.returned (.tuple #[.bool true,.int .i64 0])/\St o0 w0 G w' (answer (join k i) i 0 0)):=fun wx hx=>reply_any hx hr2 0 0
 clear h hr hr2 hj e1 e2 ha hm
 generalize answer (join k i) i 0 0=k2 at *
 generalize join k i=k1 at *
 go_enter Tryz.func116,Tryz.ntmps116
 go_wp2_with (first
  |(go_at_call 68;refine HJ.mono ?_;rintro e w1 ⟨rfl,h1⟩;have S1:Hid (St o0 w0 G w1 k1):=h1;clear h1)
  |(go_at_call 161;refine(HR.out _ S1.out).mono ?_;rintro e w2 ⟨rfl,h2⟩;have S2:Hid (St o0 w0 G w2 k2):=h2;clear h2))
 go_ret2
 exact⟨rfl,S2.out⟩
theorem tellNow_any(h:St o0 w0 G w k){i:Nat}{t:Ta}(hr:Rn k i t)(a:Aq)(ha:a.wh=19):Calls Tryz.prog 122 #[.pointer (some ⟨G.kp,0,none⟩),.pointer (some ⟨G.tp i,0,none⟩),aqV a] w fun e w'=>e=.returned (.tuple #[.bool (ask1 k i t a).1,.int .i64 (ask1 k i t a).2.2.1])/\St o0 w0 G w' (askS k i t a):=by
 have e1:ask1 k i t a=(true,k.now,0,k):=by unfold ask1;rw [if_neg (by omega),if_pos ha]
 have e2:askS k i t a=answer k i 0 k.now:=by
  rw [askS_none (by rw [ha];decide) (by rw [e1]),if_neg (by omega),e1]
 rw [e2,e1]
 have h1:=h.below (alloc_below w (.cells (aqC a) 38))
 have c1:=h1.c1
 have HR:=reply_any h1 hr 0 k.now
 clear h h1 hr e1 e2 ha
 generalize answer k i 0 k.now=k2 at *
 generalize k.now=z at *
 go_enter Tryz.func122,Tryz.ntmps122
 go_wp2_with (go_at_call 161;refine HR.mono ?_;rintro e w2 ⟨rfl,h2⟩;have S2:Hid (St o0 w0 G w2 k2):=h2;clear h2)
 go_ret2
 exact⟨rfl,S2.out⟩
theorem setBase_any(h:St o0 w0 G w k){i:Nat}{t:Ta}(hr:Rn k i t)(a:Aq)(ha:a.wh=18):Calls Tryz.prog 121 #[.pointer (some ⟨G.kp,0,none⟩),.pointer (some ⟨G.tp i,0,none⟩),aqV a] w fun e w'=>e=.returned (.tuple #[.bool (ask1 k i t a).1,.int .i64 (ask1 k i t a).2.2.1])/\St o0 w0 G w' (askS k i t a):=by
 have h1:=h.below (alloc_below w (.cells (aqC a) 38))
 obtain⟨c0,c1,c2,c3,c4⟩:=asked_cells (w:=w) (a:=a) (Below.refl _ _)
 by_cases hv:31 < a.av
 ·have e1:ask1 k i t a=(true,0,4,k):=by unfold ask1;rw [if_neg (by omega),if_neg (by omega),if_pos ha,if_pos hv]
  have e2:askS k i t a=answer k i 4 0:=by
   rw [askS_none (by rw [ha];decide) (by rw [e1]),if_neg (by omega),e1]
  rw [e2,e1]
  have HR:=reply_any h1 hr 4 0
  have hvI:(31:Int) < (a.av:Int):=by omega
  clear h h1 hr e1 e2 ha hv
  generalize answer k i 4 0=k2 at *
  go_enter Tryz.func121,Tryz.ntmps121
  go_wp2_with (go_at_call 161;refine HR.mono ?_;rintro e w2 ⟨rfl,h2⟩;have S2:Hid (St o0 w0 G w2 k2):=h2;clear h2)
  go_ret2
  exact⟨rfl,S2.out⟩
 ·have e1:ask1 k i t a=(true,0,0,k.setT i { t with base:=(a.av:Int) }):=by unfold ask1;rw [if_neg (by omega),if_neg (by omega),if_pos ha,if_neg hv]
  have e2:askS k i t a=answer (k.setT i { t with base:=(a.av:Int) }) i 0 0:=by
   rw [askS_none (by rw [ha];decide) (by rw [e1]),if_neg (by omega),e1]
  rw [e2,e1]
  have hr2:Rn (k.setT i { t with base:=(a.av:Int) }) i { t with base:=(a.av:Int) }:=⟨hr.core.based hr.ht (by omega),setT_at _ _ _,hr.st,hr.held⟩
  have HR:Hid (∀ wx,St o0 w0 G wx (k.setT i { t with base:=(a.av:Int) })->Calls Tryz.prog 161 #[.pointer (some ⟨G.kp,0,none⟩),.pointer (some ⟨G.tp i,0,none⟩),.int .i64 0,.int .u32 0] wx fun e w'=>e=.returned (.tuple #[.bool true,.int .i64 0])/\St o0 w0 G w' (answer (k.setT i { t with base:=(a.av:Int) }) i 0 0)):=fun wx hx=>reply_any hx hr2 0 0
  have HS:Hid (St o0 w0 G ((w.alloc (.cells (aqC a) 38)).setCell ⟨G.tp i,3,none⟩ (.int .i64 (a.av:Int))) (k.setT i { t with base:=(a.av:Int) })):=h1.setT hr.ht 3 _ _ rfl rfl rfl
  have d3:=h1.d3 hr.ht
  have f3:=h1.tfree hr.ht 3
  have hvI:¬ ((31:Int) < (a.av:Int)):=by omega
  have hvw:IntKind.i64.wrap (a.av:Int)=(a.av:Int):=by rw [IntKind.wrap_i64];omega
  clear h h1 hr hr2 e1 e2 ha hv
  generalize answer (k.setT i { t with base:=(a.av:Int) }) i 0 0=k2 at *
  generalize k.setT i { t with base:=(a.av:Int) }=k1 at *
  go_enter Tryz.func121,Tryz.ntmps121
  go_wp2_with (go_at_call 161;refine(HR.out _ HS.out).mono ?_;rintro e w2 ⟨rfl,h2⟩;have S2:Hid (St o0 w0 G w2 k2):=h2;clear h2)
  go_ret2
  exact⟨rfl,S2.out⟩
end
end Go.Proofs.YtbbdndfibjdcfaaGreat
