/- A part of the proof. -/
import Derived.Test.YtkcaedinfnajaaaGreatDoorPk19
import Derived.Test.YtkcaedinfnajaaaGreatDoorPk22
set_option maxHeartbeats 4000000
set_option maxRecDepth 100000
set_option linter.unusedVariables false
namespace Go.Proofs.YtkcaedinfnajaaaGreatDoor
open Go.RowKit Go.Maps
namespace Im
theorem zJk(x y:Itm):ltOf cmpI x y=decide (ltP x y):=by
 unfold ltOf cmpI orI Lib.compareInt ltP
 by_cases h1:x.1<y.1
 ·simp[h1]
 ·by_cases h2:y.1<x.1
  ·have h3:¬x.1=y.1:=by omega
   simp[h1,h2,h3]
  ·have h3:x.1=y.1:=by omega
   by_cases h4:x.2<y.2
   ·simp[h3,h4]
   ·by_cases h5:y.2<x.2<;>simp[h3,h4,h5]
theorem zTK:Go.Sort.SWO (ltOf cmpI) where
 irrefl x:=by
  rw[zJk,decide_eq_false_iff_not];exact fun h=>h.ne rfl
 trans x y z h1 h2:=by
  rw[zJk,decide_eq_true_iff]at*;exact h1.trans h2
 ntrans x y z h1 h2:=by
  rw[zJk,decide_eq_false_iff_not]at*;unfold ltP at*;omega
theorem zKD:∀{l:List Itm},l.Nodup->l.Pairwise (fun a b=>¬ltP b a)->Srt l
 |[],_,_=>zN5
 |x::l,h,k=>by
  have h':=List.nodup_cons.1 h;have k':=List.pairwise_cons.1 k;refine List.pairwise_cons.2 ⟨fun y hy=>?_,zKD h'.2 k'.2⟩;exact zRE (k'.1 y hy) fun e=>h'.1 (e▸hy)
theorem zMV(d:Array Itm):Go.Sort.flatK ic 2 d=(d.toList.flatMap ic).toArray:=by
 have hl:=zAg d.toList
 apply Array.ext_getElem?
 intro t
 by_cases ht:t<d.size*2
 ·have hi:t / 2<d.toList.length:=by rw[Array.length_toList];omega
  have h:=Rw.zBQ ic zA7 d.toList (t / 2) hi (t % 2) (Nat.mod_lt _ (by omega));rw[show t / 2*2+t % 2=t by omega]at h
  conv=>rhs;rw[List.getElem?_toArray,h]
  unfold Go.Sort.flatK;rw[Array.getElem?_map,Array.getElem?_range,if_pos ht];have hi':t / 2<d.size:=by omega
  rw[Option.map_some,getElem!_pos d (t / 2) hi',Array.getElem_toList];rcases Nat.mod_two_eq_zero_or_one t with e|e<;>rw[e]<;>simp[ic]
 ·conv=>rhs;rw[List.getElem?_toArray]
  rw[Array.getElem?_eq_none (by simp;omega),List.getElem?_eq_none (by rw[hl,Array.length_toList];omega)]
theorem zPO{T base:Nat}{X:List Itm}{g cap:Nat}{w:World}(h:ItsV T base X (.slice (some ⟨g,0,none⟩) X.length cap) w):Go.Sort.HoldsK ic 2 w g 0 X.toArray/\g<w.heap.size:=by
 rcases h.2 with⟨e,_⟩|⟨g',cap',cur,e,_,hb,_,_,h3,h4⟩
 ·cases e
 ·simp only[Value.slice.injEq,Option.some.injEq,Addr.mk.injEq,and_true,true_and]at e;obtain⟨rfl,rfl⟩:=e;refine⟨?_,(Array.getElem?_eq_some_iff.1 hb).1⟩;unfold Go.Sort.HoldsK;rw[zMV];intro j hj;have hl:=zAg X;simp only[List.size_toArray]at hj;refine⟨?_,by simp[World.frozen?,hb]⟩;have h1:(cur.toList.take (X.length*2))[j]?=(X.flatMap ic)[j]?:=by rw[h4]
  rw[List.getElem?_take_of_lt (by omega)]at h1;simp only[World.cell?,hb,Nat.zero_add];simp only[Option.isSome_none,Bool.false_eq_true,if_false];rw[←Array.getElem?_toList,h1];simp only[List.getElem!_toArray,id];rw[List.getElem?_eq_getElem hj,getElem!_pos _ j hj]
theorem zJc{w:World}{g n:Nat}{os:Array Obj}{cur:Array Value}{e:TypeId}{fr:Nat×Nat}(F:Array Value)(hb:w.heap[g]?=some (.cells cur e fr)):
  (Go.Sort.grow (Go.Sort.putRow id (Go.Sort.ahead w n) g 0 F) os).heap[g]?=some (.cells (Go.Sort.putCells id 0 F cur) e fr):=by
 have hg:g<w.heap.size:=(Array.getElem?_eq_some_iff.1 hb).1;rw[Go.Sort.heap_grow_old _ _ (by simpa using hg)];simp[Go.Sort.putRow,Go.Sort.mapBlock,Go.Sort.ahead,Array.getElem?_modify,hb,Go.Sort.onCells]
theorem zHU{w:World}{g n:Nat}{os:Array Obj}(F:Array Value):w.grownBy (Go.Sort.grow (Go.Sort.putRow id (Go.Sort.ahead w n) g 0 F) os) (some g):=by
 refine⟨rfl,rfl,rfl,by simp,fun k hk hne=>?_⟩;rw[Go.Sort.heap_grow_old _ _ (by simpa using hk)];have:g≠k:=fun e=>hne (by rw[e])
 simp[Go.Sort.putRow,Go.Sort.mapBlock,Go.Sort.ahead,Array.getElem?_modify,this]
theorem zGC(cur:Array Value)(L:List Value)(h:L.length<=cur.size):(Go.Sort.putCells id 0 L.toArray cur).toList.take L.length=L:=by
 apply List.ext_getElem?
 intro j
 by_cases hj:j<L.length
 ·rw[List.getElem?_take_of_lt hj,Array.getElem?_toList];simp[Go.Sort.putCells,hj,show j<cur.size by omega]
 ·rw[List.getElem?_take_eq_none (by omega),List.getElem?_eq_none (by omega)]
theorem zSa{T base:Nat}{X Y:List Itm}{g cap n:Nat}{w:World}{os:Array Obj}(h:ItsV T base X (.slice (some ⟨g,0,none⟩) X.length cap) w)(hl:Y.length=X.length):
  ItsV T base Y (.slice (some ⟨g,0,none⟩) X.length cap) (sortWorldK ic 2 w g 0 n Y.toArray os)/\Below base w (sortWorldK ic 2 w g 0 n Y.toArray os):=by
 unfold sortWorldK Go.Sort.putRowK;rw[zMV];rcases h.2 with⟨e,_⟩|⟨g',cap',cur,e,hbase,hb,h1,h2,h3,h4⟩
 ·cases e
 ·simp only[Value.slice.injEq,Option.some.injEq,Addr.mk.injEq,and_true,true_and]at e;obtain⟨rfl,rfl⟩:=e;have hly:=zAg Y;have hgr:=zHU (w:=w) (g:=g) (n:=n) (os:=os) ((Y.flatMap ic).toArray);refine⟨⟨by rw[hly],.inr ⟨g,cap,_,by rw[hl],hbase,zJc _ hb,by omega,h2,by simp[Go.Sort.putCells,h3],?_⟩⟩,?_⟩
  ·rw[←hly];exact zGC cur _ (by rw[hly];have:=Nat.mul_le_mul_right 2 h1;omega)
  ·exact⟨hgr.os,hgr.tape,hgr.output,hgr.size,fun k hk=>(hgr.block k (Nat.lt_of_lt_of_le hk (Nat.le_trans hbase (Nat.le_of_lt (Array.getElem?_eq_some_iff.1 hb).1))) fun e=>by injection e with e;omega)⟩
end Im
namespace Im
open Gr (Gram Sh gv GAt Box step checkN ofN ofL zDX ivs)
theorem zQS{a:Option Addr}{xs:List Value}{S:Nat->Prop}{w w':World}(h:Sep.Reads a xs w)(f:Sep.Fr S w w')(hn:∀b o,a=some ⟨b,o,none⟩->¬S b):Sep.Reads a xs w':=fun i hi=>by
 obtain⟨b,o,e,hc⟩:=h i hi;exact⟨b,o,e,f.cell hc (hn b o e)⟩
structure Bo (W:World) (h:Sh) (G:Gram) (x:Itm) (d:Nat) (w:World):Prop where
 fr:Sep.Fr (· =d) W w
 box:Box W.heap.size h G w
 i0:w.cell? ⟨W.heap.size+1,0,none⟩=some (.int .i64 x.1)
 i1:w.cell? ⟨W.heap.size+1,1,none⟩=some (.int .i64 x.2)
theorem Bo.start(h:Sh)(G:Gram)(x:Itm)(d:Nat)(w:World)(T U:TypeId):Bo w h G x d ((w.alloc (.cells #[.slice h.a1 G.terms.length h.c1,.slice h.a2 G.nons.length h.c2,.slice h.a3 G.rules.length h.c3,.int .i64 G.start] T)).alloc (.cells #[.int .i64 x.1,.int .i64 x.2] U)):=by
 have k:=Bi.start h G x w T U;exact⟨.of_below k.below,k.bx.box,k.i0,k.i1⟩
theorem Bo.later{W:World}{h:Sh}{G:Gram}{x:Itm}{d:Nat}{w w':World}(k:Bo W h G x d w)(hd:d<W.heap.size)(f:Sep.Fr (· =d) w w'):Bo W h G x d w':=by
 have h0:¬W.heap.size=d:=by omega
 have h1:¬W.heap.size+1=d:=by omega
 exact⟨k.fr.trans f (.refl _ _),⟨f.cell k.box.x0 h0,f.cell k.box.x1 h0,f.cell k.box.x2 h0,f.cell k.box.x3 h0⟩,f.cell k.i0 h1,f.cell k.i1 h1⟩
theorem Bo.went{W:World}{h:Sh}{G:Gram}{x:Itm}{d:Nat}{w w':World}(k:Bo W h G x d w)(hd:d<W.heap.size)(hb:Below w.heap.size w w'):Bo W h G x d w':=k.later hd (.of_below hb)
theorem zK9{G:Gram}{s:Int}{i:Nat}(h:i∈ofN G s):i<G.rules.length:=(Gr.zBq.1 h).1
theorem zHv{G:Gram}{d n:Nat}{X:Itm->Prop}{x:Itm}{w:World}(hX:∀y,X y->zAJ G y=true)(hx:zAJ G x=true)(h:MS d n (fun y=>X y\/y=x) w):MS d (allI G).length (fun y=>X y\/y=x) w:=
 h.tight ktI (allI G) fun y _ hy=>zCM (hy.elim (hX y) fun e=>e▸hx)
theorem zGA(h:Sh)(G:Gram)(hv:checkN G=0)(d:Nat)(x:Itm)(X:Itm->Prop)(w:World)(hx:zAJ G x=true)(hX:∀y,X y->zAJ G y=true)(hXx:X x)(hs:MS d (allI G).length X w):
  Calls Tryz.prog 152 #[.map (some d),gv h G,iv x] w fun e w'=>e=.returned (.tuple #[])/\∃Y,Sprd G X x Y/\MS d (allI G).length Y w'/\Sep.Fr (· =d) w w':=by
 have ha:=zA5 hv;have hd:=hs.lt;have B:=zVZ (Bo.start h G x d w 41 154);have P:=zVZ (zCd x (zCe hv hx) d (allI G).length X _ (hs.went (Bi.start h G x w 41 154).below) (by unfold maxLen;omega));obtain⟨x0,x1⟩:=x;unfold gv iv at*;dsimp only at B P⊢;go_enter Tryz.func152,Tryz.ntmps152;go_wp2_with (go_at_call 188;refine P.out.mono ?_;rintro e w1 ⟨ok,hok,rfl,hm,hf⟩;obtain rfl:ok=false:=(by cases ok with|false=>rfl|true=>exact absurd hXx (hok.1 rfl));have PM:=zVZ hm;have PF:=zVZ hf;clear hm hf hok);refine bodyPost_ret (v:=.tuple #[]) (by simp[results,Tryz.results152,go_sem]) rfl ?_;exact⟨rfl,_,.none hXx fun y=> .rfl,zHv hX hx PM.out,B.out.fr.trans PF.out (.refl _ _)⟩
theorem zLW(h:Sh)(G:Gram)(hv:checkN G=0)(W0:World)(k:GAt h G W0)(d:Nat)(hd:W0.heap.size<=d):∀(N:Nat) (M:List Itm) (x:Itm) (X:Itm->Prop) (w:World),M.length<=N->zAJ G x=true->(∀y,X y->zAJ G y=true)->(∀y,zAJ G y=true->¬X y->y∈M)->
  Below W0.heap.size W0 w->MS d (allI G).length X w->
  Calls Tryz.prog 152 #[.map (some d),gv h G,iv x] w fun e w'=>e=.returned (.tuple #[])/\∃Y,Sprd G X x Y/\MS d (allI G).length Y w'/\Sep.Fr (· =d) w w':=by
 have ha:=zA5 hv;have hr3:=(zEP (Gr.zAj hv).1).1;intro N
 induction N with
 |zero=>
  intro M x X w hM hx hX hm hb hs;have hMe:M=[]:=by cases M with|nil=>rfl|cons _ _=>simp at hM
  subst hMe
  have hXx:X x:=by
   rcases Classical.em (X x)with q|q
   ·exact q
   ·have:=hm x hx q;cases this
  exact zGA h G hv d x X w hx hX hXx hs
 |succ N ih=>
  intro M x X w hM hx hX hm hb hs;rcases Classical.em (X x)with hXx|hXx
  ·exact zGA h G hv d x X w hx hX hXx hs
  have hMx:=hm x hx hXx
  have hM':(M.erase x).length<=N:=by
   rw[List.length_erase_of_mem hMx];omega
  have hdw:=hs.lt;have B:=zVZ (Bo.start h G x d w 41 154);have P:=zVZ (zCd x (zCe hv hx) d (allI G).length X _ (hs.went (Bi.start h G x w 41 154).below) (by unfold maxLen;omega));have HB:=zVZ (fun w1 (f:Sep.Fr (· =d) w w1)=>show Below W0.heap.size W0 w1 from hb.trans (f.below (fun i hi=>by omega) hb.size));have HN:=zVZ (fun w1 (b:Below W0.heap.size W0 w1)=>zKW h G x w1 (k.went b));have HO:=zVZ (fun w1 (b:Below W0.heap.size W0 w1)=>zDX h G (behV G x) w1 (k.went b) (by omega));have IH:=zVZ (fun(r:Int) (Z:Itm->Prop) w1 (b:Below W0.heap.size W0 w1) (hr:zAJ G (r,0)=true) (hZ:∀y,Z y->zAJ G y=true) (hZX:∀y,X y->Z y) (hZx:Z x) (hz:MS d (allI G).length Z w1)=>ih (M.erase x) (r,0) Z w1 hM' hr hZ (fun y hy hn=>(List.mem_erase_of_ne (fun e=>hn (by rw[e];exact hZx))).2 (hm y hy fun q=>hn (hZX y q))) b hz);obtain⟨e1,e2⟩:=zSm hx;rw[e1,e2]at HN;clear e1 e2 ih k hs hm hM hM' hMx;generalize hnb:behB G x=nb at HN;obtain⟨x0,x1⟩:=x;unfold gv iv at*;dsimp only at B P⊢;go_enter Tryz.func152,Tryz.ntmps152
  go_wp2_with (first
   |(go_at_call 188;refine P.out.mono ?_;rintro e w1 ⟨ok,hok,rfl,hm,hf⟩;obtain rfl:ok=true:=hok.2 hXx;have PM:=zVZ (zHv hX hx hm);have PB:=zVZ (B.out.later hdw hf);obtain⟨⟨g0,g1,g2,g3⟩,y0,y1⟩:=(⟨PB.out.box,PB.out.i0,PB.out.i1⟩:_/\_/\_);clear hm hf hok B P)
   |(go_at_call 189;refine(HN.out _ (HB.out _ PB.out.fr)).mono ?_;rintro e w2 ⟨rfl,hb2⟩;have QM:=zVZ (PM.out.went hb2);have QB:=zVZ (PB.out.went hdw hb2);obtain⟨⟨g0,g1,g2,g3⟩,y0,y1⟩:=(⟨QB.out.box,QB.out.i0,QB.out.i1⟩:_/\_/\_);clear hb2 PM PB)
   | (go_at_call 129;refine(HO.out _ (HB.out _ QB.out.fr)).mono ?_;rintro e w3 ⟨a3,c3,rfl,hr,hn,hb3⟩;have RM:=zVZ (QM.out.went hb3);have RB:=zVZ (QB.out.went hdw hb3);have RL:=zVZ hr;have RN:=zVZ (show∀b o,a3=some ⟨b,o,none⟩->¬b=d from fun b o e=>by have:=hn _ e;have:=QB.out.fr.size;dsimp only at*;omega);clear hr hn hb3 QM QB))
  clear HN HO;have PS:=zVZ (Part.start (K:=ofN G (behV G (x0,x1))) hx (fun y=>(Iff.rfl:(X y\/y=(x0,x1))↔_)));have HK:=zVZ (fun j (hj:j<(ofN G (behV G (x0,x1))).length)=>show(ofL G (behV G (x0,x1)))[j]'(by rw[Gr.zCq];exact hj)=(((ofN G (behV G (x0,x1)))[j]:Nat):Int)by simp[ofL,Gr.ofI,ofN]);have hkl:=Gr.zCq G (behV G (x0,x1))
  have hsm:(ofN G (behV G (x0,x1))).length<=300:=by
   have:=Gr.zRK G.rules (behV G (x0,x1)) G.rules.length;rw[←hkl];exact Nat.le_trans this hr3
  rw[hkl];go_loopw [24] (fun i wr=>∃j:Nat,j<=(ofN G (behV G (x0,x1))).length/\i=.int .i64 j/\Bo w h G (x0,x1) d wr/\Sep.Reads a3 (ivs (ofL G (behV G (x0,x1)))) wr/\∃Z,Part G X (x0,x1) (ofN G (behV G (x0,x1))) j Z/\MS d (allI G).length Z wr) (fun i _=>(ofN G (behV G (x0,x1))).length-(intOf i).toNat)
  case atStart=>exact⟨0,Nat.zero_le _,rfl,RB.out,RL.out,_,PS.out,RM.out⟩
  case round=>
   obtain⟨j,hj,rfl,hB,hL,Z,hP,hZ⟩:=hrel;clear RB RL RM PS;obtain⟨⟨g0,g1,g2,g3⟩,y0,y1⟩:=(⟨hB.box,hB.i0,hB.i1⟩:_/\_/\_);have B:=zVZ hB;have L:=zVZ hL;have PZ:=zVZ hP;have MZ:=zVZ hZ
   by_cases hlt:j<(ofN G (behV G (x0,x1))).length
   ·obtain⟨b,o,rfl,hc⟩:=hL j (by simp[ivs];omega)
    have hk:(ivs (ofL G (behV G (x0,x1))))[j]'(by simp[ivs];omega)=.int .i64 (((ofN G (behV G (x0,x1)))[j]:Nat):Int):=by
     simp only[ivs,List.getElem_map,Gr.iv];rw[HK.out j hlt]
    rw[hk]at hc;have PST:=zVZ (fun(Y:Itm->Prop)=>Part.step (Y:=Y) hv hx hP hlt);have hkr:zAJ G ((((ofN G (behV G (x0,x1)))[j]:Nat):Int),0)=true:=zBJ (Nat.le_of_lt (zK9 (List.getElem_mem hlt)));have C:=zVZ (IH.out _ Z wr (HB.out _ hB.fr) hkr (hP.right hX) hP.old hP.own hZ);clear hk hL hP hZ hB hkr;generalize (ofN G (behV G (x0,x1)))[j]=r at*;go_wp2_with (go_at_call 152;refine C.out.mono ?_;rintro e w4 ⟨rfl,Y,hs,hm,hf⟩;have MY:=zVZ hm;have PY:=zVZ (PST.out Y hs);have BY:=zVZ (B.out.later hdw hf);have LY:=zVZ (zQS L.out hf RN.out);clear hs hm hf);go_roundw
    case rel=>exact⟨j+1,by omega,by go_num,BY.out,LY.out,Y,PY.out,MY.out⟩
    case measure=>simp[intOf];omega
   ·have hE:j=(ofN G (behV G (x0,x1))).length:=by omega
    subst hE;go_wp2;go_end0;exact⟨rfl,Z,PZ.out.done,MZ.out,B.out.fr⟩
theorem zQh(base:Nat)(X:List Itm)(a:Option Addr)(c:Nat)(w:World)(h:ItsV 154 base X (.slice a X.length c) w)(hl:X.length<=1000000):
  Calls Tryz.prog 203 #[.slice a X.length c,.func (.func 192) #[] #[]] w fun e w'=>e=.returned (.tuple #[])/\∃Y,Y.Perm X/\Y.Pairwise (fun a b=>¬ltP b a)/\ItsV 154 base Y (.slice a X.length c) w'/\Below base w w':=by
 have h':=h;rcases h'.2 with⟨e,h0⟩|⟨g,cap,cur,e,hbase,hb,_⟩
 ·simp only[Value.slice.injEq]at e;obtain⟨rfl,_,rfl⟩:=e;obtain rfl:X=[]:=List.eq_nil_of_length_eq_zero h0;exact(zN3 none 0 _ w).mono fun e w' ⟨h1,h2⟩=>⟨h1,[],.nil,.nil,by rw[h2];exact h,by rw[h2];exact .refl _ _⟩
 ·simp only[Value.slice.injEq,true_and]at e;obtain⟨rfl,rfl⟩:=e;obtain⟨hH,hg⟩:=zPO h;have eg:∀args w,(callFunc 192 args).run Tryz.prog w=.ok (.enter 192 args) w:=enters_of Tryz.func192 (by kernel_rfl) rfl;have hcmp:CmpLays Tryz.prog 192 #[] ic 2 cmpI g 0 X.toArray.size w:=fun m os dk _ x y=>(zIQ x y _).mono fun e w' ⟨h1,q,os',h2⟩=>⟨h1,q,os',h2⟩
  have hcon:=AnyQ.slices_SortFunc Tryz.sortItm 2 Tryz.isAgg154 Tryz.sizeOf154 ic zA7 (fun x v hv=>by simp[ic]at hv;rcases hv with rfl|rfl<;>rfl) cmpI zTK 192 #[] g 0 c X.toArray w eg hcmp hH hg (by simp;omega);change Calls Tryz.prog 203 _ _ _ at hcon;simp only[List.size_toArray]at hcon;refine hcon.mono ?_;rintro e w' ⟨h1,d',n,os,⟨p1,p2,p3⟩,hs,rfl⟩;simp only[List.size_toArray]at p1 p3
  have hp:d'.toList.Perm X:=by
   have e1:d'.extract 0 X.length=d':=by rw[←p1];simp
   have e2:X.toArray.extract 0 X.length=X.toArray:=by simp
   rw[e1,e2]at p3
   simpa using p3
  have hd:d'=d'.toList.toArray:=by simp
  have hr:=zSa (Y:=d'.toList) (n:=n) (os:=os) h (by rw[Array.length_toList];exact p1);rw[←hd]at hr;refine⟨h1,d'.toList,hp,?_,hr⟩;rw[List.pairwise_iff_getElem];intro i j hi hj hij;have hi':i<d'.size:=by simpa using hi
  have hj':j<d'.size:=by simpa using hj
  have:=hs i j (Nat.zero_le _) hij (by omega);rw[zJk,decide_eq_false_iff_not,getElem!_pos d' j hj',getElem!_pos d' i hi']at this
  simpa using this
theorem zGF(Bm b nn:Nat)(X:Itm->Prop)(w:World)(hBm:Bm<w.heap.size)(hm:w.cell? ⟨Bm,0,none⟩=some (.map (some b)))(hs:MS b nn X w)(hnn:nn<=1000000):
  Calls Tryz.prog 207 #[.slice none 0 0,seqv Bm] w (zRY X w):=
 (callsIn_wide (n:=3)).1 (appendSeq_in Fence.wide 3 trivial trivial rfl (by omega) Bm b nn X w hBm hm hs hnn)
theorem zIP(Bm b nn:Nat)(X:Itm->Prop)(w:World)(hBm:Bm<w.heap.size)(hm:w.cell? ⟨Bm,0,none⟩=some (.map (some b)))(hs:MS b nn X w)(hnn:nn<=1000000):
  Calls Tryz.prog 202 #[seqv Bm] w (zRY X w):=by
 have A:=zVZ (zGF Bm b nn X w hBm hm hs hnn);clear hm hs;go_enter Tryz.func202,Tryz.ntmps202;go_wp2_with (go_at_call 207;refine A.out.mono ?_;rintro e w1 ⟨v,ss,rfl,h1,h2,h3⟩;have H1:=zVZ h1;have H2:=zVZ h2;have H3:=zVZ h3;clear h1 h2 h3);go_ret;exact⟨v,ss,rfl,H1.out,H2.out,H3.out⟩
theorem zPY(b:Nat)(w:World):Calls Tryz.prog 191 #[.map (some b)] w fun e w'=>e=.returned (seqv w.heap.size)/\w'=w.alloc (.cells #[.map (some b)] 223):=by
 go_enter Tryz.func191,Tryz.ntmps191;go_wp2;go_ret;exact⟨rfl,rfl⟩
def zEU(P:Itm->Prop)(w:World)(e:Ending)(w':World):Prop:=∃(Y:List Itm) (a:Option Addr) (c:Nat),e=.returned (.slice a Y.length c)/\Is Y P/\ItsV 154 w.heap.size Y (.slice a Y.length c) w'/\Below w.heap.size w w'
theorem zFi(Bm b nn:Nat)(X:Itm->Prop)(w:World)(hBm:Bm<w.heap.size)(hm:w.cell? ⟨Bm,0,none⟩=some (.map (some b)))(hs:MS b nn X w)(hnn:nn<=1000000)(M:List Itm)(hM:∀x,X x->x∈M)(hML:M.length<=1000000):
  Calls Tryz.prog 190 #[seqv Bm,.func (.func 192) #[] #[]] w (zEU (fun x=>X x/\W64 x) w):=by
 have C:=zVZ (zIP Bm b nn X w hBm hm hs hnn);clear hm hs;have HM:=zVZ hM;clear hM;go_enter Tryz.func190,Tryz.ntmps190
 go_wp2_with (first
  |(go_at_call 202;refine C.out.mono ?_;rintro e w1 ⟨v,ss,rfl,h1,h2,h3⟩;obtain⟨a,c,rfl,hc⟩:=h2.shape;have hlen:=Nat.le_trans (zDW h1.nd fun x hx=>HM.out x ((h1.mem x (h1.fit x hx)).1 hx)) hML;have H1:=zVZ h1;have H2:=zVZ h2;have H3:=zVZ h3;clear h1 h2 h3)
  | (go_at_call 203;refine(zQh _ ss a c _ H2.out hlen).mono ?_;rintro e w2 ⟨rfl,Y,k1,k2,k3,k4⟩;have K1:=zVZ k1;have K2:=zVZ k2;have K3:=zVZ k3;have K4:=zVZ k4;clear k1 k2 k3 k4))
 go_ret;have el:=K1.out.length_eq;refine⟨Y,a,c,by rw[el];rfl,⟨zKD (K1.out.nodup_iff.2 H1.out.nd) K2.out,fun x=>?_⟩,by rw[el];exact K3.out,H3.out.trans K4.out⟩;rw[K1.out.mem_iff];exact⟨fun hx=>⟨(H1.out.mem x (H1.out.fit x hx)).1 hx,H1.out.fit x hx⟩,fun⟨h1,h2⟩=>(H1.out.mem x h2).2 h1⟩
theorem zEO(b nn:Nat)(X:Itm->Prop)(w:World)(hs:MS b nn X w)(hnn:nn<=1000000)(M:List Itm)(hM:∀x,X x->x∈M)(hML:M.length<=1000000):
  Calls Tryz.prog 153 #[.map (some b)] w (zEU (fun x=>X x/\W64 x) w):=by
 have hb:Below w.heap.size w (w.alloc (.cells #[.map (some b)] 223)):=Gr.boxed _ _;have S:=zVZ (zFi w.heap.size b nn X (w.alloc (.cells #[.map (some b)] 223)) (by simp) (Gr.zAC rfl rfl) (hs.went hb) hnn M hM hML);have K:=zVZ (zPY b w);clear hs;go_enter Tryz.func153,Tryz.ntmps153
 go_wp2_with (first
  |(go_at_call 191;refine K.out.mono ?_;rintro e w1 ⟨rfl,rfl⟩)
  | (go_at_call 190;refine S.out.mono ?_;rintro e w2 ⟨Y,a,c,rfl,h1,h2,h3⟩;have H1:=zVZ h1;have H2:=zVZ h2;have H3:=zVZ h3;clear h1 h2 h3))
 go_ret;exact⟨Y,a,c,rfl,H1.out,H2.out.mono (by simp),hb.trans (H3.out.mono (by simp))⟩
end Im
namespace Im
open Gr (Gram Sh gv GAt Bx step boxed checkN zAC)
noncomputable def lst(G:Gram)(L:List Itm):List Itm:=if checkN G=0 then L else[]
theorem zDu{G:Gram}{L:List Itm}{x:Itm}:x∈lst G L↔checkN G=0/\x∈L:=by
 unfold lst
 by_cases h:checkN G=0
 ·simp[h]
 ·simp[h]
theorem zUL{G:Gram}(h:checkN G=0)(L:List Itm):lst G L=L:=if_pos h
theorem zSj{G:Gram}(h:¬checkN G=0)(L:List Itm):lst G L=[]:=if_neg h
theorem zDE{G:Gram}{L:List Itm}(x:Itm):VSet G L x↔(x∈lst G L/\zAJ G x=true):=by
 unfold VSet;rw[zDu,and_assoc]
theorem zOw{G:Gram}{x:Itm}(h:Clo G [] x):False:=by
 induction h with
 |of h _=>cases h
 |next _ _ _ ih=>exact ih
theorem zRx{G:Gram}{L:List Itm}{x:Itm}:Clo G (lst G L) x↔checkN G=0/\Clo G L x:=by
 by_cases h:checkN G=0
 ·rw[zUL h];exact⟨fun k=>⟨h,k⟩,fun k=>k.2⟩
 ·rw[zSj h];exact⟨fun k=>(zOw k).elim,fun k=>absurd k.1 h⟩
noncomputable def allL(G:Gram):List Itm:=if checkN G=0 then allI G else[]
theorem zJJ(G:Gram):(allL G).length<=2709:=by
 unfold allL
 by_cases h:checkN G=0
 ·rw[if_pos h];exact zA5 h
 ·rw[if_neg h];simp
theorem zPp{G:Gram}{x:Itm}(h:checkN G=0)(hx:zAJ G x=true):x∈allL G:=by
 unfold allL;rw[if_pos h];exact zCM hx
theorem zEU.of{P Q:Itm->Prop}{w w1 w':World}{e:Ending}(h:zEU P w1 e w')(hb:Below w.heap.size w w1)(hi:∀x,P x↔Q x):zEU Q w e w':=by
 obtain⟨Y,a,c,h1,h2,h3,h4⟩:=h;exact⟨Y,a,c,h1,h2.iff hi,h3.mono hb.size,Gr.step hb h4⟩
structure Rnd (W:World) (h:Sh) (G:Gram) (d b r n q:Nat) (X Lf Z:Itm->Prop) (m:Nat) (w:World):Prop where
 bx:Bx W h G w
 run:MR b r n q X Lf w
 set:MS d m Z w
 d1:W.heap.size+1<=d
 d2:d<b
 d3:d<r
theorem Rnd.later{W:World}{h:Sh}{G:Gram}{d b r n q m:Nat}{X Lf Z:Itm->Prop}{w w':World}(k:Rnd W h G d b r n q X Lf Z m w)(hb:Below w.heap.size w w'):Rnd W h G d b r n q X Lf Z m w'/\w'.rangeLeft b r=w.rangeLeft b r:=
 ⟨⟨k.bx.went hb,k.run.went hb,k.set.went hb,k.d1,k.d2,k.d3⟩,MRan.left_keep (hb.block b k.run.lt.1) (hb.block r k.run.lt.2.1)⟩
theorem Rnd.wrote{W:World}{h:Sh}{G:Gram}{d b r n q m m':Nat}{X Lf Z Z':Itm->Prop}{w w':World}(k:Rnd W h G d b r n q X Lf Z m w)(f:Sep.Fr (· =d) w w')(hs:MS d m' Z' w'):Rnd W h G d b r n q X Lf Z' m' w'/\w'.rangeLeft b r=w.rangeLeft b r:=by
 have h1:=f.block b k.run.lt.1 (by have:=k.d2;omega);have h2:=f.block r k.run.lt.2.1 (by have:=k.d3;omega);exact⟨⟨zGI k.bx f fun i hi=>by have:=k.d1;omega,k.run.keep h1 h2,hs,k.d1,k.d2,k.d3⟩,MRan.left_keep h1 h2⟩
theorem Rnd.next{W:World}{h:Sh}{G:Gram}{d b r n q m:Nat}{X Lf Lf' Z:Itm->Prop}{w w':World}(k:Rnd W h G d b r n q X Lf Z m w)(hg:w.grownBy w' (some r))(hr:MR b r n (q+1) X Lf' w'):Rnd W h G d b r n (q+1) X Lf' Z m w':=by
 refine⟨k.bx.grown hg fun g e=>?_,hr,k.set.keep (hg.block d k.set.lt fun e=>?_),k.d1,k.d2,k.d3⟩
 ·injection e with e
  have:=k.d1;have:=k.d3;omega
 ·injection e with e
  have:=k.d3;omega
theorem zMG(h:Sh)(G:Gram)(L:List Itm)(a:Option Addr)(c:Nat)(w:World)(k:GAt h G w)(kl:ItsA a L w)(hw:∀x∈L,W64 x)(hL:L.length<=1000000):
  Calls Tryz.prog 130 #[gv h G,.slice a L.length c] w (zEU (fun x=>checkN G=0/\Clo G L x) w):=by
 have X0:=zVZ (Bx.start h G w 41);have V:=zVZ (fun w1 (b:Below w.heap.size w w1)=>zOT h G L a c w1 (k.went b) (kl.went b) hw (by omega));have M0:=zVZ (MSet.made (H:=Nat) (w.alloc (.cells #[.slice h.a1 G.terms.length h.c1,.slice h.a2 G.nons.length h.c2,.slice h.a3 G.rules.length h.c3,.int .i64 G.start] 41)) Tryz.prog 154 unitElem (.agg []));have X1:=zVZ (X0.out.alloc (.map #[] 0));have hs1:(w.alloc (.cells #[.slice h.a1 G.terms.length h.c1,.slice h.a2 G.nons.length h.c2,.slice h.a3 G.rules.length h.c3,.int .i64 G.start] 41)).heap.size=w.heap.size+1:=by simp
 have hs2:((w.alloc (.cells #[.slice h.a1 G.terms.length h.c1,.slice h.a2 G.nons.length h.c2,.slice h.a3 G.rules.length h.c3,.int .i64 G.start] 41)).alloc (.map #[] 0)).heap.size=w.heap.size+2:=by simp
 rw[hs1]at M0;have SP:=zVZ (fun(hv:checkN G=0) (x:Itm) (Z:Itm->Prop) w1 (b:Below w.heap.size w w1) (hx:zAJ G x=true) (hZ:∀y,Z y->zAJ G y=true) (hz:MS (w.heap.size+1) (allI G).length Z w1)=>zLW h G hv w k (w.heap.size+1) (by omega) (allI G).length (allI G) x Z w1 (Nat.le_refl _) hx hZ (fun y hy _=>zCM hy) b hz);clear k kl hw X0 hs1;unfold gv at*;have hmm:=@run_makeMap Tryz.prog;go_enter Tryz.func130,Tryz.ntmps130
 go_wp2_with (first
  |(go_at_call 151;refine(V.out _ X1.out.below).mono ?_;rintro e w1 ⟨b,n,rfl,hb1,hb2,hm,hb⟩;have X2:=zVZ (X1.out.went hb);have Z2:=zVZ (M0.out.went hb);have V2:=zVZ hm;rw[hs2]at hb1;clear hm hb)
  |(at_range;refine zD2 _ rfl _ rfl ktI Tryz.underlying223 (.agg []) b n _ rfl V2.out ?_;intro w2 hrg hg hsz)
  |go_in)
 have hX2s:=X2.out.size
 have R0:=zVZ (show Rnd w h G (w.heap.size+1) b w1.heap.size n 0 _ _ (fun _=>False) (allI G).length w2 from
  ⟨X2.out.grown hg (fun g e=>by cases e),hrg,(Z2.out.keep (hg.block _ Z2.out.lt (fun e=>by cases e))).mono (Nat.zero_le _),Nat.le_refl _,by omega,by have:=V2.out.lt;omega⟩)
 have P0:=zVZ (Way.start (G:=G) (L:=lst G L) (X:=VSet G L) (Z:=fun _=>False) (fun y h1 h2=>(zDE y).2 ⟨h1,h2⟩) (fun _=>id));clear V X1 M0 X2 Z2 hrg hg hsz hs2 hX2s;go_frame;go_loopw [6] (fun _ wr=>∃(q:Nat) (Lf Z:Itm->Prop),Rnd w h G (w.heap.size+1) b w1.heap.size n q (VSet G L) Lf Z (allI G).length wr/\Way G (lst G L) Lf Z) (fun _ wr=>wr.rangeLeft b w1.heap.size)
 case atStart=>exact⟨0,_,_,R0.out,P0.out⟩
 case round=>
  obtain⟨q,Lf,Z,hR,hP⟩:=hrel;clear R0 P0;have HR:=zVZ hR;have HP:=zVZ hP;have hrg:=hR.run;clear hR hP
  go_wp2_with (first
   |(at_next;refine zEI _ rfl _ rfl ktI b w1.heap.size n q _ Lf rfl hrg ?_ ?_)
   |go_in)
  ·intro hd;have hz:∀y,Z y↔checkN G=0/\Clo G L y:=fun y=>(HP.out.done (fun y h1 h2=>hd y (zCe (zDu.1 h1).1 h2)) y).trans zRx
   have hzm:∀y,Z y->y∈allL G:=fun y hy=>zPp ((hz y).1 hy).1 (HP.out.right y hy)
   have LS:=zVZ ((zEO (w.heap.size+1) (allL G).length Z wr (HR.out.set.tight ktI (allL G) fun y _ hy=>hzm y hy) (Nat.le_trans (zJJ G) (by omega)) (allL G) hzm (Nat.le_trans (zJJ G) (by omega))).mono fun e w' hl=>zEU.of (Q:=fun x=>checkN G=0/\Clo G L x) hl HR.out.bx.below fun x=>⟨fun q=>(hz x).1 q.1,fun q=>⟨(hz x).2 q,zCe q.1 (zAk q.2)⟩⟩);have hB:=HR.out.bx.below;clear HR HP hrg hzm;go_wp2_with (go_at_call 153;refine LS.out.mono ?_;rintro e w4 ⟨Y,a4,c4,rfl,h1,h2,h3⟩;have H1:=zVZ h1;have H2:=zVZ h2;have H3:=zVZ h3;clear h1 h2 h3);go_ret;exact⟨Y,a4,c4,rfl,H1.out,H2.out,H3.out⟩
  ·intro x0 x1 w3 hx hlf hXx hrg2 hlt hg2 hs2 hen;have hv:=hXx.1;have hR3:=HR.out.next hg2 hrg2;obtain⟨hR4,hl4⟩:=hR3.later (boxed w3 (.cells #[.int .i64 x0,.int .i64 x1] 154));obtain⟨g0,g1,g2,g3⟩:=hR4.bx.box;have y0:(w3.alloc (.cells #[.int .i64 x0,.int .i64 x1] 154)).cell? ⟨w3.heap.size,0,none⟩=some (.int .i64 x0):=zAC rfl rfl;have y1:(w3.alloc (.cells #[.int .i64 x0,.int .i64 x1] 154)).cell? ⟨w3.heap.size,1,none⟩=some (.int .i64 x1):=zAC rfl rfl;have R4:=zVZ hR4;have C:=zVZ (SP.out hv (x0,x1) Z _ hR4.bx.below hXx.2.2 HP.out.right hR4.set);have PS:=zVZ (fun(Y:Itm->Prop)=>HP.out.step (Y:=Y) (x:=(x0,x1)) ((zDE _).1 hXx).1 hXx.2.2);have hl5:wr.rangeLeft b w1.heap.size>(w3.alloc (.cells #[.int .i64 x0,.int .i64 x1] 154)).rangeLeft b w1.heap.size:=by rw[hl4];exact hlt
   unfold iv at hen C⊢;dsimp only at hen C⊢;clear hR3 hR4 hl4 hlt hs2 hrg hrg2 HR HP hXx hlf hg2 hx;go_wp2_with (go_at_call 152;refine C.out.mono ?_;rintro e w5 ⟨rfl,Y,hs,hm,hf⟩;obtain⟨r5,l5⟩:=R4.out.wrote hf hm;have P5:=zVZ (PS.out Y hs);have R5:=zVZ r5;rw[←l5]at hl5;clear hs hm hf l5 r5);go_roundw
   case rel=>exact⟨_,_,Y,R5.out,P5.out⟩
   case measure=>exact hl5
