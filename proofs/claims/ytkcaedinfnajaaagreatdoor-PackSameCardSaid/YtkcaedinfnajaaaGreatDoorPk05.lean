/- A part of the proof. -/
import Derived.Test.YtkcaedinfnajaaaGreatDoorPk03
import Derived.Test.YtkcaedinfnajaaaGreatDoorPk04
set_option linter.unusedVariables false
namespace Go.Proofs.YtkcaedinfnajaaaGreatDoor
namespace Im
open Gr (Gram checkN zAj zBu zBZ zAa ofN zBq zBE zAr)
theorem zEP{G:Gram}(h:zBu G=false):G.rules.length<=300/\∀r∈G.rules,r.2.length<=8:=by
 unfold zBu at h;simp only[Bool.or_eq_false_iff,decide_eq_false_iff_not,List.any_eq_false,decide_eq_true_eq]at h;exact⟨by omega,fun r hr=>by have:=h.2 r hr;omega⟩
theorem zCD{G:Gram}(h:checkN G=0){r:Nat}(hr:r<=G.rules.length):rlen G (r:Int)<=8:=by
 have hm:=zEP (zAj h).1;unfold rlen
 by_cases e:r=G.rules.length
 ·subst e;rw[(zAr G).2];simp
 ·have hr':r<G.rules.length:=by omega
  rw[(zBE hr').2];exact hm.2 _ (List.getElem_mem hr')
theorem zA5{G:Gram}(h:checkN G=0):(allI G).length<=2709:=by
 have h1:=zRj (G:=G) (B:=8) fun r hr=>zCD h hr
 have h2:=(zEP (zAj h).1).1;have h3:(G.rules.length+1)*(8+1)<=301*9:=Nat.mul_le_mul (by omega) (by omega);omega
theorem zDG{G:Gram}(h:checkN G=0){x:Itm}(hx:zAJ G x=true):0<=x.1/\x.1<=300/\0<=x.2/\x.2<=8:=by
 obtain⟨⟨h1,h2⟩,h3,h4⟩:=zAQ.1 hx;have hm:=(zEP (zAj h).1).1;obtain⟨r,hr⟩:=Int.eq_ofNat_of_zero_le h1;have:=zCD h (r:=r) (by omega);rw[hr]at h4;omega
theorem zKL{n:Int}(h: -1000<=n)(k:n<=1000):(Lit.int .i64 n).wf=true:=by
 simp only[Lit.wf,IntKind.min,IntKind.max,IntKind.signed,IntKind.bits,Bool.and_eq_true,decide_eq_true_eq,if_true];omega
theorem zCe{G:Gram}(h:checkN G=0){x:Itm}(hx:zAJ G x=true):W64 x:=by
 have:=zDG h hx;exact⟨zKL (by omega) (by omega),zKL (by omega) (by omega)⟩
theorem zM4{G:Gram}(h:checkN G=0):ofN G 0=[]:=by
 rw[List.eq_nil_iff_forall_not_mem];intro r hr;obtain⟨h1,h2⟩:=zBq.1 hr;have:=zAa.1 (zBZ (zAj h).2.2.2.1 h1);omega
theorem zPb{G:Gram}(h:checkN G=0){x:Itm}(hx:¬behB G x=true):ofN G (behV G x)=[]:=by
 unfold behV;rw[if_neg hx];exact zM4 h
theorem zMC{G:Gram}{x y z:Itm}(h:Clo G [x] y)(k:Clo G [y] z):Clo G [x] z:=by
 induction k with
 |of h1 h2=>
  rw[List.mem_singleton]at h1;subst h1;exact h
 |next _ h2 h3 ih=>exact .next ih h2 h3
theorem zJR{G:Gram}{x:Itm}(h:zAJ G x=true):Clo G [x] x:=.of (List.mem_singleton.2 rfl) h
theorem zRw{G:Gram}{x:Itm}(h:zAJ G x=true){r:Nat}(hr:r∈ofN G (behV G x))(hv:checkN G=0):Clo G [x] ((r:Int),0):=by
 by_cases hb:behB G x=true
 ·exact .next (zJR h) hb hr
 ·rw[zPb hv hb]at hr;cases hr
structure Sprd (G:Gram) (X:Itm->Prop) (x:Itm) (Y:Itm->Prop):Prop where
 old:∀y,X y->Y y
 own:Y x
 new:∀y,Y y->X y\/Clo G [x] y
 shut:∀y,Y y->¬X y->∀r∈ofN G (behV G y),Y ((r:Int),0)
theorem Sprd.none{G:Gram}{X Y:Itm->Prop}{x:Itm}(h:X x)(e:∀y,Y y↔X y\/y=x):Sprd G X x Y:=by
 have e':∀y,Y y↔X y:=fun y=>(e y).trans ⟨fun k=>k.elim id fun k=>k▸h,.inl⟩
 exact⟨fun y hy=>(e' y).2 hy,(e' x).2 h,fun y hy=> .inl ((e' y).1 hy),fun y hy hn=>absurd ((e' y).1 hy) hn⟩
structure Part (G:Gram) (X:Itm->Prop) (x:Itm) (K:List Nat) (j:Nat) (Z:Itm->Prop):Prop where
 old:∀y,X y->Z y
 own:Z x
 new:∀y,Z y->X y\/Clo G [x] y
 kids:∀i (h:i<K.length),i<j->Z ((K[i]:Int),0)
 shut:∀y,Z y->¬X y->y≠x->∀r∈ofN G (behV G y),Z ((r:Int),0)
theorem Part.start{G:Gram}{X Z:Itm->Prop}{x:Itm}{K:List Nat}(hr:zAJ G x=true)(e:∀y,Z y↔X y\/y=x):Part G X x K 0 Z:=
 ⟨fun y hy=>(e y).2 (.inl hy),(e x).2 (.inr rfl),fun y hy=>((e y).1 hy).imp id fun k=>by rw[k];exact zJR hr,fun i _ hi=>by omega,fun y hy hn hne=>absurd ((e y).1 hy) fun k=>k.elim hn hne⟩
theorem Part.step{G:Gram}{X Z Y:Itm->Prop}{x:Itm}{j:Nat}(hv:checkN G=0)(hr:zAJ G x=true)(p:Part G X x (ofN G (behV G x)) j Z)(hj:j<(ofN G (behV G x)).length)(s:Sprd G Z (((ofN G (behV G x))[j]:Int),0) Y):Part G X x (ofN G (behV G x)) (j+1) Y:=by
 refine⟨fun y hy=>s.old y (p.old y hy),s.old x p.own,fun y hy=>?_,fun i hi hij=>?_,fun y hy hn hne r hk=>?_⟩
 ·rcases s.new y hy with k|k
  ·exact p.new y k
  ·exact .inr (zMC (zRw hr (List.getElem_mem hj) hv) k)
 ·by_cases e:i=j
  ·subst e;exact s.own
  ·exact s.old _ (p.kids i hi (by omega))
 ·rcases Classical.em (Z y)with k|k
  ·exact s.old _ (p.shut y k hn hne r hk)
  ·exact s.shut y hy k r hk
theorem Part.done{G:Gram}{X Z:Itm->Prop}{x:Itm}(p:Part G X x (ofN G (behV G x)) (ofN G (behV G x)).length Z):Sprd G X x Z:=by
 refine⟨p.old,p.own,p.new,fun y hy hn r hk=>?_⟩
 by_cases e:y=x
 ·subst e;obtain⟨i,hi,e⟩:=List.getElem_of_mem hk;rw[←e];exact p.kids i hi hi
 ·exact p.shut y hy hn e r hk
theorem Part.right{G:Gram}{X Z:Itm->Prop}{x:Itm}{K:List Nat}{j:Nat}(p:Part G X x K j Z)(h:∀y,X y->zAJ G y=true)(y:Itm)(hy:Z y):zAJ G y=true:=(p.new y hy).elim (h y) zAk
structure Way (G:Gram) (L:List Itm) (Lf Z:Itm->Prop):Prop where
 sub:∀y,Z y->Clo G L y
 met:∀y,y∈L->zAJ G y=true->¬Lf y->Z y
 shut:∀y,Z y->∀r∈ofN G (behV G y),Z ((r:Int),0)
theorem Way.start{G:Gram}{L:List Itm}{X Z:Itm->Prop}(hX:∀y,y∈L->zAJ G y=true->X y)(hz:∀y,¬Z y):Way G L X Z:=
 ⟨fun y hy=>absurd hy (hz y),fun y h1 h2 h3=>absurd (hX y h1 h2) h3,fun y hy=>absurd hy (hz y)⟩
theorem Way.step{G:Gram}{L:List Itm}{Lf Z Y:Itm->Prop}{x:Itm}(p:Way G L Lf Z)(hx:x∈L)(hr:zAJ G x=true)(s:Sprd G Z x Y):Way G L (fun y=>Lf y/\y≠x) Y:=by
 refine⟨fun y hy=>?_,fun y h1 h2 h3=>?_,fun y hy r hk=>?_⟩
 ·rcases s.new y hy with k|k
  ·exact p.sub y k
  ·exact zOv (fun z hz=>by rw[List.mem_singleton]at hz;rw[hz];exact hx) k
 ·by_cases e:y=x
  ·rw[e];exact s.own
  ·exact s.old y (p.met y h1 h2 fun k=>h3 ⟨k,e⟩)
 ·rcases Classical.em (Z y)with k|k
  ·exact s.old _ (p.shut y k r hk)
  ·exact s.shut y hy k r hk
theorem Way.done{G:Gram}{L:List Itm}{Lf Z:Itm->Prop}(p:Way G L Lf Z)(h:∀y,y∈L->zAJ G y=true->¬Lf y)(y:Itm):Z y↔Clo G L y:=by
 refine⟨p.sub y,fun k=>?_⟩
 induction k with
 |of h1 h2=>exact p.met _ h1 h2 (h _ h1 h2)
 |next _ h2 h3 ih=>exact p.shut _ ih _ h3
theorem Way.right{G:Gram}{L:List Itm}{Lf Z:Itm->Prop}(p:Way G L Lf Z)(y:Itm)(hy:Z y):zAJ G y=true:=zAk (p.sub y hy)
end Im
namespace Au
open Gr (Gram)
open Im
theorem zTJ(G:Gram):Srt (allI G):=by
 unfold Srt allI;rw[List.pairwise_flatMap];refine⟨fun r _=>?_,?_⟩
 ·rw[List.pairwise_map];refine List.pairwise_lt_range.imp fun {a b} h=>?_
  refine .inr ⟨rfl,?_⟩;dsimp only;omega
 ·refine List.pairwise_lt_range.imp fun {a b} h=>?_
  intro x hx y hy;obtain⟨_,_,rfl⟩:=List.mem_map.1 hx;obtain⟨_,_,rfl⟩:=List.mem_map.1 hy;refine .inl ?_;dsimp only;omega
open Classical in
noncomputable def zQJ(G:Gram)(P:Itm->Prop):List Itm:=(allI G).filter fun x=>decide (P x)
open Classical in
theorem zMw{G:Gram}{P:Itm->Prop}(h:∀x,P x->zAJ G x=true):Is (zQJ G P) P:=by
 refine⟨(zTJ G).sublist List.filter_sublist,fun x=>?_⟩;unfold zQJ;rw[List.mem_filter];exact⟨fun q=>of_decide_eq_true q.2,fun q=>⟨zCM (h x q),decide_eq_true q⟩⟩
noncomputable def clL(G:Gram)(L:List Itm):List Itm:=zQJ G (Clo G L)
noncomputable def stL(G:Gram)(L:List Itm)(s:Int):List Itm:=zQJ G (zLq G L s)
theorem zFb(G:Gram)(L:List Itm):Is (clL G L) (Clo G L):=zMw fun x=>zAk
theorem zEp(G:Gram)(L:List Itm)(s:Int):Is (stL G L s) (zLq G L s):=zMw fun x h=>(zCu h).1
abbrev Half:=List (List Itm)×List (Int×Int)
noncomputable def oneS(G:Gram)(c:List Itm)(s:Nat)(p:Half):Half:=
 if stL G c s=[]then p else(if stL G c s∈p.1 then p.1 else p.1++[stL G c s],p.2++[((s:Int),((p.1++[stL G c s]).idxOf (stL G c s):Int))])
noncomputable def zCz(G:Gram)(c:List Itm):Nat->Half->Half
 |0,p=>p
 |n+1,p=>oneS G c (n+1) (zCz G c n p)
theorem zCA(G:Gram)(c:List Itm)(n:Nat)(p:Half):zCz G c (n+1) p=oneS G c (n+1) (zCz G c n p):=rfl
theorem zHj{G:Gram}{c:List Itm}{s:Nat}{p:Half}(h:stL G c s=[]):oneS G c s p=p:=if_pos h
theorem zP8{G:Gram}{c:List Itm}{s:Nat}{p:Half}(h:stL G c s≠[])(k:stL G c s∈p.1):oneS G c s p=(p.1,p.2++[((s:Int),(p.1.idxOf (stL G c s):Int))]):=by
 unfold oneS;rw[if_neg h,if_pos k,List.idxOf_append,if_pos k]
theorem zP7{G:Gram}{c:List Itm}{s:Nat}{p:Half}(h:stL G c s≠[])(k:stL G c s∉p.1):oneS G c s p=(p.1++[stL G c s],p.2++[((s:Int),(p.1.length:Int))]):=by
 unfold oneS;rw[if_neg h,if_neg k,List.idxOf_append,if_neg k];simp
abbrev Whole:=List (List Itm)×List (List (Int×Int))
noncomputable def rnd(G:Gram)(top:Nat)(q:Whole):Whole:=
 match q.1[q.2.length]? with
 |none=>q
 |some L=>((zCz G (clL G L) top (q.1,[])).1,q.2++[(zCz G (clL G L) top (q.1,[])).2])
noncomputable def runs(G:Gram)(top:Nat):Nat->Whole
 |0=>([[((G.rules.length:Int),0)]],[])
 |n+1=>rnd G top (runs G top n)
theorem zJ7{G:Gram}{top:Nat}{q:Whole}(h:q.2.length<q.1.length):rnd G top q=((zCz G (clL G q.1[q.2.length]) top (q.1,[])).1,q.2++[(zCz G (clL G q.1[q.2.length]) top (q.1,[])).2]):=by
 unfold rnd;rw[List.getElem?_eq_getElem h]
noncomputable def zBA(G:Gram)(ks:List (List Itm))(c:List Itm)(n:Nat):List (Int×Int):=
 (List.range n).filterMap fun i=>if stL G c ((i+1:Nat):Int)=[]then none else some (((i+1:Nat):Int),(ks.idxOf (stL G c ((i+1:Nat):Int)):Int))
theorem zBG(G:Gram)(ks:List (List Itm))(c:List Itm)(n:Nat):zBA G ks c (n+1)=zBA G ks c n++(if stL G c ((n+1:Nat):Int)=[]then[]else[(((n+1:Nat):Int),(ks.idxOf (stL G c ((n+1:Nat):Int)):Int))]):=by
 unfold zBA;rw[List.range_succ,List.filterMap_append]
 congr 1
 by_cases h:stL G c ((n+1:Nat):Int)=[]
 ·simp only[List.filterMap_cons,List.filterMap_nil,if_pos h]
 ·simp only[List.filterMap_cons,List.filterMap_nil,if_neg h]
theorem zFL{G:Gram}{ks:List (List Itm)}{c:List Itm}{n:Nat}(more:List (List Itm))(h:∀i,i<n->stL G c ((i+1:Nat):Int)≠[]->stL G c ((i+1:Nat):Int)∈ks):zBA G (ks++more) c n=zBA G ks c n:=by
 induction n with
 |zero=>rfl
 |succ n ih=>
  rw[zBG,zBG,ih fun i hi=>h i (by omega)]
  by_cases k:stL G c ((n+1:Nat):Int)=[]
  ·rw[if_pos k,if_pos k]
  ·rw[if_neg k,if_neg k,List.idxOf_append,if_pos (h n (by omega) k)]
structure HalfOk (G:Gram) (c:List Itm) (ks:List (List Itm)) (n:Nat) (p:Half):Prop where
 front:∃more,p.1=ks++more/\∀k∈more,∃i,i<n/\k=stL G c ((i+1:Nat):Int)/\k≠[]
 nodup:p.1.Nodup
 here:∀i,i<n->stL G c ((i+1:Nat):Int)≠[]->stL G c ((i+1:Nat):Int)∈p.1
 trans:p.2=zBA G p.1 c n
theorem HalfOk.start{G:Gram}{c:List Itm}{ks:List (List Itm)}(h:ks.Nodup):HalfOk G c ks 0 (ks,[]):=
 ⟨⟨[],by simp,fun k hk=>by cases hk⟩,h,fun i hi=>by omega,rfl⟩
theorem HalfOk.next{G:Gram}{c:List Itm}{ks:List (List Itm)}{n:Nat}{p:Half}(h:HalfOk G c ks n p):HalfOk G c ks (n+1) (oneS G c (n+1) p):=by
 obtain⟨more,e,hm⟩:=h.front
 by_cases h0:stL G c ((n+1:Nat):Int)=[]
 ·rw[zHj h0];refine⟨⟨more,e,fun k hk=>?_⟩,h.nodup,fun i hi hn=>?_,?_⟩
  ·obtain⟨i,h1,h2⟩:=hm k hk;exact⟨i,by omega,h2⟩
  ·by_cases q:i=n
   ·subst q;exact absurd h0 hn
   ·exact h.here i (by omega) hn
  ·rw[zBG,if_pos h0,List.append_nil];exact h.trans
 ·by_cases h1:stL G c ((n+1:Nat):Int)∈p.1
  ·rw[zP8 h0 h1];refine⟨⟨more,e,fun k hk=>?_⟩,h.nodup,fun i hi hn=>?_,?_⟩
   ·obtain⟨i,h1,h2⟩:=hm k hk;exact⟨i,by omega,h2⟩
   ·by_cases q:i=n
    ·subst q;exact h1
    ·exact h.here i (by omega) hn
   ·rw[zBG,if_neg h0,←h.trans]
  ·rw[zP7 h0 h1];refine⟨⟨more++[stL G c ((n+1:Nat):Int)],by dsimp only;rw[e,List.append_assoc],fun k hk=>?_⟩,?_,fun i hi hn=>?_,?_⟩
   ·rcases List.mem_append.1 hk with hk|hk
    ·obtain⟨i,h1,h2⟩:=hm k hk;exact⟨i,by omega,h2⟩
    ·rw[List.mem_singleton]at hk;exact⟨n,by omega,hk,by rw[hk];exact h0⟩
   ·dsimp only;rw[List.nodup_append];refine⟨h.nodup,by simp,fun x hx y hy q=>?_⟩;rw[List.mem_singleton]at hy;subst hy;subst q;exact h1 hx
   ·by_cases q:i=n
    ·subst q;exact List.mem_append.2 (.inr (List.mem_singleton.2 rfl))
    ·exact List.mem_append.2 (.inl (h.here i (by omega) hn))
   ·dsimp only;rw[zBG,if_neg h0,zFL _ h.here,←h.trans,List.idxOf_append,if_neg h1];simp
theorem zGS{G:Gram}{c:List Itm}{ks:List (List Itm)}(h:ks.Nodup):∀n,HalfOk G c ks n (zCz G c n (ks,[]))
 |0=> .start h
 |n+1=>(zGS h n).next
end Au
namespace Au
open Gr (Gram)
open Im
def zAI(ks:List (List Itm))(i:Nat):List Itm:=ks.getD i []
theorem zBF{ks more:List (List Itm)}{i:Nat}(h:i<ks.length):zAI (ks++more) i=zAI ks i:=by
 unfold zAI;rw[List.getD_eq_getElem?_getD,List.getD_eq_getElem?_getD,List.getElem?_append_left h]
theorem zBb{ks:List (List Itm)}{i:Nat}(h:i<ks.length):zAI ks i=ks[i]:=by
 unfold zAI;rw[List.getD_eq_getElem?_getD,List.getElem?_eq_getElem h]
 rfl
theorem zA3{ks:List (List Itm)}{i:Nat}(h:i<ks.length):zAI ks i∈ks:=by
 rw[zBb h];exact List.getElem_mem h
theorem zRA{ks:List (List Itm)}{k:List Itm}(h:k∈ks):ks.idxOf k<ks.length/\zAI ks (ks.idxOf k)=k:=by
 have h1:=List.idxOf_lt_length_of_mem h;refine⟨h1,?_⟩;rw[zBb h1];exact List.getElem_idxOf h1
structure WholeOk (G:Gram) (top:Nat) (q:Whole):Prop where
 le:q.2.length<=q.1.length
 pos:0<q.1.length
 nodup:q.1.Nodup
 zero:zAI q.1 0=[((G.rules.length:Int),0)]
 good:∀k∈q.1,k≠[]/\Srt k/\∀x∈k,zAJ G x=true
 trans:∀i,i<q.2.length->q.2.getD i []=zBA G q.1 (clL G (zAI q.1 i)) top
 here:∀i,i<q.2.length->∀s,s<top->stL G (clL G (zAI q.1 i)) ((s+1:Nat):Int)≠[]->stL G (clL G (zAI q.1 i)) ((s+1:Nat):Int)∈q.1
 early:∀t,0<t->t<q.1.length->∃i s,i<t/\i<q.2.length/\s<top/\zAI q.1 t=stL G (clL G (zAI q.1 i)) ((s+1:Nat):Int)
theorem WholeOk.start(G:Gram)(top:Nat):WholeOk G top (runs G top 0):=by
 refine⟨by simp[runs],by simp[runs],by simp[runs],rfl,fun k hk=>?_,fun i hi=>by simp[runs]at hi,fun i hi=>by simp[runs]at hi,fun t h1 h2=>?_⟩
 ·simp only[runs,List.mem_singleton]at hk;subst hk;refine⟨by simp,zFK _,fun x hx=>?_⟩;rw[List.mem_singleton]at hx;subst hx;exact zBJ (Nat.le_refl _)
 ·simp only[runs,List.length_cons,List.length_nil]at h2;omega
theorem WholeOk.next{G:Gram}{top:Nat}{q:Whole}(h:WholeOk G top q):WholeOk G top (rnd G top q):=by
 by_cases hq:q.2.length<q.1.length
 ·rw[zJ7 hq,←zBb hq];have H:=zGS (G:=G) (c:=clL G (zAI q.1 q.2.length)) h.nodup top;generalize zCz G (clL G (zAI q.1 q.2.length)) top (q.1,[])=p at H;obtain⟨more,e,hm⟩:=H.front;have hl:q.1.length<=p.1.length:=by rw[e,List.length_append];omega
  refine⟨by dsimp only;rw[List.length_append];simp;omega,by have:=h.pos;dsimp only;omega,H.nodup,?_,fun k hk=>?_,fun i hi=>?_,fun i hi s hs hn=>?_,fun t h1 h2=>?_⟩
  ·dsimp only;rw[e,zBF h.pos];exact h.zero
  ·dsimp only at hk;rw[e]at hk;rcases List.mem_append.1 hk with hk|hk
   ·exact h.good k hk
   ·obtain⟨i,_,h1,h2⟩:=hm k hk;have hs:=zEp G (clL G (zAI q.1 q.2.length)) ((i+1:Nat):Int);rw[←h1]at hs;exact⟨h2,hs.1,fun x hx=>(zCu ((hs.2 x).1 hx)).1⟩
  ·dsimp only at hi⊢;rw[List.length_append,List.length_singleton]at hi
   by_cases k:i<q.2.length
   ·rw[List.getD_eq_getElem?_getD,List.getElem?_append_left k,←List.getD_eq_getElem?_getD,h.trans i k,e,zBF (by omega),zFL more fun s hs hn=>h.here i k s hs hn]
   ·obtain rfl:i=q.2.length:=by omega
    rw[List.getD_eq_getElem?_getD,List.getElem?_append_right (Nat.le_refl _)];simp only[Nat.sub_self,List.getElem?_cons_zero,Option.getD_some];rw[H.trans,show zAI p.1 q.2.length=zAI q.1 q.2.length from by rw[e,zBF hq]]
  ·dsimp only at hi hn⊢;rw[List.length_append,List.length_singleton]at hi;have hi':i<q.1.length:=by omega
   rw[show zAI p.1 i=zAI q.1 i from by rw[e,zBF hi']]at hn⊢
   by_cases k:i<q.2.length
   ·rw[e];exact List.mem_append.2 (.inl (h.here i k s hs hn))
   ·obtain rfl:i=q.2.length:=by omega
    exact H.here s hs hn
  ·dsimp only at h2⊢
   by_cases k:t<q.1.length
   ·obtain⟨i,s,a1,a2,a3,a4⟩:=h.early t h1 k;refine⟨i,s,a1,by rw[List.length_append];omega,a3,?_⟩;rw[e,zBF k,zBF (by omega)];exact a4
   ·have hmem:zAI p.1 t∈more:=by
     rw[zBb h2];simp only[e,List.getElem_append_right (Nat.le_of_not_lt k)];exact List.getElem_mem _
    obtain⟨s,a1,a2,_⟩:=hm _ hmem;refine⟨q.2.length,s,by omega,by rw[List.length_append];simp,a1,?_⟩;rw[a2,e,zBF hq]
 ·unfold rnd;rw[List.getElem?_eq_none (by omega)];exact h
theorem zFH(G:Gram)(top:Nat):∀n,WholeOk G top (runs G top n)
 |0=> .start G top
 |n+1=>(zFH G top n).next
theorem zTD{G:Gram}{top:Nat}{q:Whole}(h:q.2.length<q.1.length):(rnd G top q).2.length=q.2.length+1:=by
 rw[zJ7 h];simp
theorem zKB{G:Gram}{top:Nat}:∀{n:Nat},(∀m,m<n->(runs G top m).2.length<(runs G top m).1.length)->(runs G top n).2.length=n
 |0,_=>rfl
 |n+1,h=>by
  show(rnd G top (runs G top n)).2.length=n+1;rw[zTD (h n (by omega)),zKB fun m hm=>h m (by omega)]
theorem zAw{G:Gram}{ks:List (List Itm)}{c:List Itm}{n:Nat}{s t:Int}:(s,t)∈zBA G ks c n↔∃i,i<n/\s=((i+1:Nat):Int)/\stL G c s≠[]/\t=(ks.idxOf (stL G c s):Int):=by
 unfold zBA;rw[List.mem_filterMap];constructor
 ·rintro⟨i,hi,h⟩;split at h
  ·cases h
  ·rename_i hn;injection h with h
   injection h with h1 h2
   subst h1;exact⟨i,List.mem_range.1 hi,rfl,hn,h2.symm⟩
 ·rintro⟨i,hi,rfl,hn,rfl⟩;exact⟨i,List.mem_range.2 hi,if_neg hn⟩
def leads(tr:List (Int×Int))(s:Int):Int:=((tr.find? fun x=>decide (x.1=s)).map (·.2)).getD (-1)
theorem zEs{G:Gram}{ks:List (List Itm)}{c:List Itm}{n i:Nat}(hi:i<n)(hn:stL G c ((i+1:Nat):Int)≠[]):leads (zBA G ks c n) ((i+1:Nat):Int)=(ks.idxOf (stL G c ((i+1:Nat):Int)):Int):=by
 unfold leads
 have key:∀x∈zBA G ks c n,decide (x.1=((i+1:Nat):Int))=true->x.2=(ks.idxOf (stL G c ((i+1:Nat):Int)):Int):=by
  rintro⟨s,t⟩ hx hd;obtain⟨j,hj,h1,h2,h3⟩:=zAw.1 hx;have hd':s=((i+1:Nat):Int):=of_decide_eq_true hd;dsimp only;rw[←hd'];exact h3
 have hm:((((i+1:Nat):Int),(ks.idxOf (stL G c ((i+1:Nat):Int)):Int)):Int×Int)∈zBA G ks c n:=zAw.2 ⟨i,hi,rfl,hn,rfl⟩;cases hf:(zBA G ks c n).find? fun x=>decide (x.1=((i+1:Nat):Int))with
 |none=>
  have:=List.find?_eq_none.1 hf _ hm;simp at this
 |some x=>exact key x (List.mem_of_find?_eq_some hf) (List.find?_some (p:=fun x:Int×Int=>decide (x.1=((i+1:Nat):Int))) hf)
end Au
namespace Au
open Gr (Gram checkN zAj zAE zAY top zAs zBE zAr zAa)
open Im
def Stop(q:Whole):Prop:=2000<q.1.length\/q.2.length=q.1.length
def zD4(G:Gram)(n:Nat):Prop:=Stop (runs G (top G) n)/\∀m,m<n->¬Stop (runs G (top G) m)
theorem zD4.uniq{G:Gram}{n m:Nat}(h:zD4 G n)(k:zD4 G m):n=m:=by
 rcases Nat.lt_trichotomy n m with q|q|q
 ·exact absurd h.1 (k.2 n q)
 ·exact q
 ·exact absurd k.1 (h.2 m q)
theorem zBP{G:Gram}(hv:checkN G=0){r:Int}(hr:zAY G r=true){d:Nat}(hd:d<(zAE G r).2.length):1<=(zAE G r).2[d]/\(zAE G r).2[d]<=(top G:Int):=by
 have hk:=(zAj hv).2.2.2.1
 have hb:0<=r/\r<=(G.rules.length:Int):=by
  unfold zAY at hr;exact of_decide_eq_true hr
 obtain⟨i,rfl⟩:=Int.eq_ofNat_of_zero_le hb.1;simp only[zAs,Bool.and_eq_true,List.all_eq_true,decide_eq_true_eq]at hk
 by_cases e:i=G.rules.length
 ·subst e;have h2:=(zAr G).2;have h3:=zAa.1 hk.1;have e1:(zAE G ((G.rules.length:Nat):Int)).2=[G.start]:=by rw[h2]
  have e0:(zAE G ((G.rules.length:Nat):Int)).2[d]=G.start:=by
   have:d=0:=by rw[e1]at hd;simp at hd;omega
   subst this;simp only[e1,List.getElem_cons_zero]
  rw[e0];unfold top;omega
 ·have hi:i<G.rules.length:=by omega
  have h2:=(zBE hi).2;have hm:=(hk.2 _ (List.getElem_mem hi)).2;have hin:(zAE G (i:Int)).2[d]∈(zAE G (i:Int)).2:=List.getElem_mem hd;have e1:(zAE G (i:Int)).2=(G.rules[i]).2:=by rw[h2]
  rw[←e1]at hm;exact hm _ hin
theorem zBx{G:Gram}{r:Int}{d:Nat}(hr:zAY G r=true)(hd:d<(zAE G r).2.length):behB G (r,(d:Int))=true/\behV G (r,(d:Int))=(zAE G r).2[d]:=by
 have hb:behB G (r,(d:Int))=true:=by
  rw[zAo];refine⟨?_,by unfold rlen;dsimp only;omega⟩;unfold zAJ rlen;rw[hr,Bool.true_and,decide_eq_true_iff];dsimp only;omega
 refine⟨hb,?_⟩;unfold behV;rw[if_pos hb];simp[hd]
def zIV(G:Gram)(s:Int)(x:Itm):Prop:=zAY G x.1=true/\1<=x.2/\x.2<=(rlen G x.1:Int)/\(zAE G x.1).2.getD (x.2-1).toNat 0=s
theorem zI4{G:Gram}{L:List Itm}{s:Int}{x:Itm}(h:zLq G L s x):zIV G s x:=by
 obtain⟨y,_,h1,h2,rfl⟩:=h;obtain⟨h3,h4⟩:=zAo.1 h1;obtain⟨h5,h6⟩:=zAQ.1 h3;refine⟨?_,by dsimp only;omega,by dsimp only;omega,?_⟩
 ·unfold zAY;exact decide_eq_true h5
 ·unfold behV at h2;rw[if_pos h1]at h2;dsimp only;rw[show(y.2+1-1).toNat=y.2.toNat from by congr 1;omega];exact h2
structure Done (G:Gram) (q:Whole):Prop where
 ok:WholeOk G (top G) q
 all:q.2.length=q.1.length
theorem Done.to{G:Gram}{q:Whole}(h:Done G q){k:Nat}(hk:k<q.1.length){s t:Int}(hm:(s,t)∈q.2.getD k []):∃n:Nat,t=(n:Int)/\n<q.1.length/\zAI q.1 n=stL G (clL G (zAI q.1 k)) s:=by
 have hl:k<q.2.length:=by rw[h.all];exact hk
 rw[h.ok.trans k hl]at hm;obtain⟨i,hi,rfl,hn,rfl⟩:=zAw.1 hm;have:=zRA (h.ok.here k hl i hi hn);exact⟨_,rfl,this.1,this.2⟩
theorem Done.enters{G:Gram}{q:Whole}(h:Done G q){k:Nat}(hk:k<q.1.length){s t:Int}(hm:(s,t)∈q.2.getD k []):∃n:Nat,t=(n:Int)/\n<q.1.length/\∀x∈zAI q.1 n,zIV G s x:=by
 obtain⟨n,h1,h2,h3⟩:=h.to hk hm;refine⟨n,h1,h2,fun x hx=>?_⟩;rw[h3]at hx;exact zI4 (((zEp _ _ _).2 x).1 hx)
theorem Done.early{G:Gram}{q:Whole}(h:Done G q){t:Nat}(h0:0<t)(ht:t<q.1.length):∃k s,k<t/\(s,(t:Int))∈q.2.getD k []:=by
 obtain⟨k,i,h1,h2,h3,h4⟩:=h.ok.early t h0 ht;refine⟨k,((i+1:Nat):Int),h1,?_⟩;rw[h.ok.trans k h2];refine zAw.2 ⟨i,h3,rfl,?_,?_⟩
 ·rw[←h4];exact(h.ok.good _ (zA3 ht)).1
 ·rw[←h4,zBb ht]
  congr 1
  exact(h.ok.nodup.idxOf_getElem t ht).symm
theorem Done.some{G:Gram}{q:Whole}(h:Done G q){t:Nat}(ht:t<q.1.length):zAI q.1 t≠[]:=(h.ok.good _ (zA3 ht)).1
def zCw(n:Nat)(ts:List (List (Int×Int)))(i s:Int):Int:=if 0<=i/\i<(n:Int)then leads (ts.getD i.toNat []) s else-1
def zEH(n:Nat)(ts:List (List (Int×Int)))(i:Int):List Int->Int
 |[]=>if 0<=i/\i<(n:Int)then i else-1
 |s::way=>if 0<=i/\i<(n:Int)then zEH n ts (zCw n ts i s) way else-1
theorem walk_nil{n:Nat}{ts:List (List (Int×Int))}{i:Nat}(h:i<n):zEH n ts (i:Int) []=(i:Int):=by
 unfold zEH;rw[if_pos ⟨by omega,by omega⟩]
theorem zOV{n:Nat}{ts:List (List (Int×Int))}{i:Nat}(h:i<n)(s:Int)(way:List Int):zEH n ts (i:Int) (s::way)=zEH n ts (leads (ts.getD i []) s) way:=by
 show(if 0<=(i:Int)/\(i:Int)<(n:Int)then zEH n ts (zCw n ts i s) way else-1)= _;rw[if_pos ⟨by omega,by omega⟩];unfold zCw;rw[if_pos ⟨by omega,by omega⟩,Int.toNat_natCast]
theorem Done.one{G:Gram}{q:Whole}(h:Done G q)(hv:checkN G=0){i:Nat}(hi:i<q.1.length){r:Int}{d:Nat}(hr:zAY G r=true)(hd:d<(zAE G r).2.length)(hx:(r,(d:Int))∈clL G (zAI q.1 i)):
  ∃j:Nat,j<q.1.length/\leads (q.2.getD i []) (zAE G r).2[d]=(j:Int)/\(r,((d+1:Nat):Int))∈zAI q.1 j:=by
 obtain⟨b1,b2⟩:=zBx hr hd;obtain⟨s1,s2⟩:=zBP hv hr hd;have hl:i<q.2.length:=by rw[h.all];exact hi
 obtain⟨m,hm⟩:=Int.eq_ofNat_of_zero_le (show 0<=(zAE G r).2[d]-1 by omega);have hs:(zAE G r).2[d]=((m+1:Nat):Int):=by omega
 have hmt:m<top G:=by omega
 have hst:(r,((d+1:Nat):Int))∈stL G (clL G (zAI q.1 i)) ((m+1:Nat):Int):=((zEp _ _ _).2 _).2 ⟨(r,(d:Int)),hx,b1,by rw[b2,hs],by simp⟩;have hn:stL G (clL G (zAI q.1 i)) ((m+1:Nat):Int)≠[]:=fun e=>by rw[e]at hst;cases hst
 have hin:=zRA (h.ok.here i hl m hmt hn);refine⟨_,hin.1,?_,by rw[hin.2];exact hst⟩;rw[hs,h.ok.trans i hl,zEs hmt hn]
theorem Done.way{G:Gram}{q:Whole}(h:Done G q)(hv:checkN G=0){r:Int}(hr:zAY G r=true):∀(m d:Nat) (i:Nat),d+m=(zAE G r).2.length->i<q.1.length->(r,(d:Int))∈clL G (zAI q.1 i)->(0<m\/(r,(d:Int))∈zAI q.1 i)->
  ∃j:Nat,j<q.1.length/\zEH q.1.length q.2 (i:Int) ((zAE G r).2.drop d)=(j:Int)/\(r,((zAE G r).2.length:Int))∈zAI q.1 j
 |0,d,i,e,hi,_,hx=>by
  have hx':(r,(d:Int))∈zAI q.1 i:=by
   rcases hx with q|q
   ·omega
   ·exact q
  have hd:d=(zAE G r).2.length:=by omega
  refine⟨i,hi,?_,by rw[←hd];exact hx'⟩;rw[hd,List.drop_length,walk_nil hi]
 |m+1,d,i,e,hi,hx,_=>by
  have hd:d<(zAE G r).2.length:=by omega
  obtain⟨j,h1,h2,h3⟩:=h.one hv hi hr hd hx;have hcl:(r,((d+1:Nat):Int))∈clL G (zAI q.1 j):=((zFb _ _).2 _).2 (.of h3 ((h.ok.good _ (zA3 h1)).2.2 _ h3));obtain⟨k,k1,k2,k3⟩:=Done.way h hv hr m (d+1) j (by omega) h1 hcl (.inr h3);refine⟨k,k1,?_,k3⟩;rw[List.drop_eq_getElem_cons hd,zOV hi,h2];exact k2
theorem Done.spells{G:Gram}{q:Whole}(h:Done G q)(hv:checkN G=0){i:Nat}(hi:i<q.1.length){r:Int}(hr:zAY G r=true)(h0:(zAE G r).2.length≠0)(hx:(r,0)∈clL G (zAI q.1 i)):
  ∃j:Nat,j<q.1.length/\zEH q.1.length q.2 (i:Int) (zAE G r).2=(j:Int)/\(r,((zAE G r).2.length:Int))∈zAI q.1 j:=
 h.way hv hr _ 0 i (Nat.zero_add _) hi hx (.inl (by omega))
def states(q:Whole):List (List Itm×List (Int×Int)):=q.1.zip q.2
theorem zAp{q:Whole}(h:q.2.length=q.1.length):(states q).length=q.1.length:=by
 unfold states;rw[List.length_zip,h,Nat.min_self]
theorem zCE{q:Whole}(h:q.2.length=q.1.length){i:Nat}(hi:i<q.1.length):(states q)[i]?=some (zAI q.1 i,q.2.getD i []):=by
 unfold states;rw[List.getElem?_zip_eq_some];have hi2:i<q.2.length:=by omega
 refine⟨?_,?_⟩
 ·rw[List.getElem?_eq_getElem hi,zBb hi]
 ·rw[List.getElem?_eq_getElem hi2,List.getD_eq_getElem?_getD,List.getElem?_eq_getElem hi2]
  rfl
theorem zD4.done{G:Gram}{n:Nat}(h:zD4 G n)(k:¬2000<(runs G (top G) n).1.length):Done G (runs G (top G) n):=
 ⟨zFH G (top G) n,h.1.resolve_left k⟩
inductive Built (G:Gram):Int->List (List Itm×List (Int×Int))->Prop
 |bad:checkN G≠0->Built G (checkN G) []
 |many {n:Nat}:checkN G=0->zD4 G n->2000<(runs G (top G) n).1.length->Built G 7 []
 |all {n:Nat}:checkN G=0->zD4 G n->¬2000<(runs G (top G) n).1.length->Built G 0 (states (runs G (top G) n))
theorem Built.uniq{G:Gram}{e f:Int}{X Y:List (List Itm×List (Int×Int))}(h:Built G e X)(k:Built G f Y):e=f/\X=Y:=by
 cases h with
 |bad h1=>
  cases k with
  |bad _=>exact⟨rfl,rfl⟩
  |many k1 _ _=>exact absurd k1 h1
  |all k1 _ _=>exact absurd k1 h1
 |many h1 h2 h3=>
  cases k with
  |bad k1=>exact absurd h1 k1
  |many _ _ _=>exact⟨rfl,rfl⟩
  |all _ k2 k3=>
   rw[h2.uniq k2]at h3;exact absurd h3 k3
 |all h1 h2 h3=>
  cases k with
  |bad k1=>exact absurd h1 k1
  |many _ k2 k3=>
   rw[h2.uniq k2]at h3;exact absurd k3 h3
  |all _ k2 _=>
   rw[h2.uniq k2];exact⟨rfl,rfl⟩
def zIC(G:Gram)(n:Nat):Prop:=∀m,m<n->¬Stop (runs G (top G) m)
theorem zKt(G:Gram):zIC G 0:=fun m h=>absurd h (Nat.not_lt_zero m)
theorem zIC.next{G:Gram}{n:Nat}(h:zIC G n)(k:¬Stop (runs G (top G) n)):zIC G (n+1):=fun m hm=>by
 by_cases e:m=n
 ·rw[e];exact k
 ·exact h m (by omega)
theorem zIC.stop{G:Gram}{n:Nat}(h:zIC G n)(k:Stop (runs G (top G) n)):zD4 G n:=⟨k,h⟩
theorem zIC.len{G:Gram}{n:Nat}(h:zIC G n):(runs G (top G) n).2.length=n:=zKB fun m hm=>by
 have h1:=h m hm;have h2:=(zFH G (top G) m).le;unfold Stop at h1;omega
end Au
namespace Lk
open Gr (Gram checkN zAj zAE zAY ofN zEG zAa zAy zBZ zAt)
open Im
open Au
open Fi (Fst zCv zCp zEt)
def zIy(G:Gram)(x:Itm):List Int:=(zAE G x.1).2.drop (x.2+1).toNat
inductive La (G:Gram) (q:Whole):Nat->Itm->Int->Prop
 |start:La G q 0 ((G.rules.length:Int),0) 0
 |move {i j:Nat} {x:Itm} {t:Int}:La G q i x t->behB G x=true->leads (q.2.getD i []) (behV G x)=(j:Int)->La G q j (x.1,x.2+1) t
 |opens {i r:Nat} {x:Itm} {t u:Int}:La G q i x t->behB G x=true->r∈ofN G (behV G x)->zCv G (zIy G x++[t]) u->La G q i ((r:Int),0) u
theorem zPE{G:Gram}(hv:checkN G=0){t u:Int}(ht:t=0\/zEG G t=true)(h:Fst G t u):u=t:=by
 generalize hx:t=x at h;cases h with
 |leaf _=>exact hx.symm▸rfl
 |rule hr _ _ _=>
  rename_i r pre y post
  exfalso
  obtain⟨i,hi,rfl⟩:=List.getElem_of_mem hr;have h1:=zBZ (zAj hv).2.2.2.1 hi;rw[zAt hi]at h1;have h2:=zAa.1 h1;rw[←hx]at h2;rcases ht with q|q
  ·omega
  ·have:=zAy.1 q;omega
theorem zB7{G:Gram}(hv:checkN G=0){t:Int}(ht:t=0\/zEG G t=true):∀{l:List Int} {u:Int},zCv G (l++[t]) u↔zCv G l u\/((∀z∈l,Fi.Can G z)/\u=t)
 |[],u=>by
  rw[List.nil_append,zCp];constructor
  ·rintro(h|⟨_,h⟩)
   ·exact .inr ⟨(fun z hz=>by cases hz),zPE hv ht h⟩
   ·exact absurd h zEt
  ·rintro(h|⟨_,rfl⟩)
   ·exact absurd h zEt
   ·exact .inl (.leaf ht)
 |y::l,u=>by
  rw[List.cons_append,zCp,zCp,zB7 hv ht];constructor
  ·rintro(h|⟨h,h1|⟨h1,h2⟩⟩)
   ·exact .inl (.inl h)
   ·exact .inl (.inr ⟨h,h1⟩)
   ·exact .inr ⟨fun z hz=>by
     rcases List.mem_cons.1 hz with e|e
     ·exact e▸h
     ·exact h1 z e,h2⟩
  ·rintro((h|⟨h,h1⟩)|⟨h1,h2⟩)
   ·exact .inl h
   ·exact .inr ⟨h,.inl h1⟩
   ·exact .inr ⟨h1 y (List.mem_cons_self ..),.inr ⟨fun z hz=>h1 z (List.mem_cons_of_mem _ hz),h2⟩⟩
theorem zGW{G:Gram}{q:Whole}{i:Nat}{x:Itm}{t:Int}(h:La G q i x t):t=0\/zEG G t=true:=by
 induction h with
 |start=>exact .inl rfl
 |move _ _ _ ih=>exact ih
 |opens _ _ _ h _=>
  rename_i u _ _ _ _;have:=Fi.zB8 h;rcases Int.lt_or_eq_of_le this.1 with e|e
  ·exact .inr (zAy.2 ⟨by omega,this.2⟩)
  ·exact .inl e.symm
theorem zDT{G:Gram}{q:Whole}(D:Done G q)(hv:checkN G=0){i:Nat}{x:Itm}{t:Int}(h:La G q i x t):i<q.1.length/\Clo G (zAI q.1 i) x:=by
 induction h with
 |start=>
  refine⟨D.ok.pos,.of ?_ (zBJ (Nat.le_refl _))⟩;rw[D.ok.zero];exact List.mem_singleton.2 rfl
 |move _ hb hl ih=>
  rename_i i j x t _;obtain⟨h1,h2⟩:=ih;obtain⟨r,d⟩:=x;obtain⟨b1,b2⟩:=zAo.1 hb;obtain⟨c1,c2⟩:=zAQ.1 b1;dsimp only at c1 c2 b2;obtain⟨d,rfl⟩:=Int.eq_ofNat_of_zero_le c2.1
  have hr:zAY G r=true:=by
   unfold zAY;exact decide_eq_true c1
  have hd:d<(zAE G r).2.length:=by
   unfold rlen at b2;omega
  obtain⟨k,k1,k2,k3⟩:=D.one hv h1 hr hd (((zFb _ _).2 _).2 h2);rw[←(zBx hr hd).2,hl]at k2;obtain rfl:j=k:=by omega
  refine⟨k1,.of k3 ?_⟩;exact(D.ok.good _ (zA3 k1)).2.2 _ k3
 |opens _ hb hr _ ih=>exact⟨ih.1,.next ih.2 hb hr⟩
open Classical in
noncomputable def laL(G:Gram)(q:Whole)(i:Nat)(x:Itm):List Nat:=(List.range (G.terms.length+1)).filter fun t=>decide (La G q i x (t:Int))
open Classical in
theorem zNK{G:Gram}{q:Whole}{i:Nat}{x:Itm}{t:Nat}:t∈laL G q i x↔La G q i x (t:Int):=by
 unfold laL;rw[List.mem_filter,List.mem_range];constructor
 ·exact fun h=>of_decide_eq_true h.2
 ·refine fun h=>⟨?_,decide_eq_true h⟩
  rcases zGW h with e|e
  ·omega
  ·have:=(zAy.1 e).2;omega
def endI(G:Gram)(k:Nat):Itm:=((k:Int),((zAE G (k:Int)).2.length:Int))
open Classical in
noncomputable def zAl(G:Gram)(q:Whole)(i:Nat):List (Nat×List Nat):=((List.range (G.rules.length+1)).filter fun k=>decide (Clo G (zAI q.1 i) (endI G k))).map fun k=>(k,laL G q i (endI G k))
noncomputable def zCV(G:Gram)(q:Whole):List (List (Nat×List Nat)):=(List.range q.1.length).map (zAl G q)
theorem zBo(G:Gram)(q:Whole):(zCV G q).length=q.1.length:=by simp[zCV]
theorem zEg{G:Gram}{L:List Itm}{x:Itm}(h:Clo G L x):behB G x=false↔∃k:Nat,k<=G.rules.length/\x=endI G k:=by
 have hr:=zAk h;obtain⟨⟨h1,h2⟩,h3,h4⟩:=zAQ.1 hr;obtain⟨r,d⟩:=x;dsimp only at h1 h2 h3 h4;obtain⟨n,rfl⟩:=Int.eq_ofNat_of_zero_le h1;unfold rlen at h4;constructor
 ·intro hb;refine⟨n,by omega,?_⟩
  have:¬d<((zAE G (n:Int)).2.length:Int):=fun q=>by
   have:=zAo.2 ⟨hr,(show((n:Int),d).2<(rlen G ((n:Int),d).1:Int)from by unfold rlen;exact q)⟩;rw[hb]at this;cases this
  unfold endI;exact Prod.ext rfl (by dsimp only;omega)
 ·rintro⟨k,hk,e⟩;unfold endI at e;injection e with e1 e2
  obtain rfl:n=k:=by omega
  cases hb:behB G ((n:Int),d)with
  |false=>rfl
  |true=>
   have:=(zAo.1 hb).2;unfold rlen at this;dsimp only at this;omega
end Lk
namespace Ac
open Gr (Gram checkN zAE)
open Im
open Au
open Lk (La endI)
abbrev Ac2:=Int×Int
abbrev Cl4:=Int×Int×Ac2×Ac2
open Classical in
noncomputable def redB(G:Gram)(q:Whole)(i k t:Nat):Bool:=decide (La G q i (endI G k) (t:Int))
open Classical in
theorem zCQ{G:Gram}{q:Whole}{i k t:Nat}:redB G q i k t=true↔La G q i (endI G k) (t:Int):=by
 unfold redB;rw[decide_eq_true_iff]
def zBS(q:Whole)(i t:Nat):List Ac2:=if 0<t/\0<=leads (q.2.getD i []) (t:Int)then[(1,leads (q.2.getD i []) (t:Int))]else[]
noncomputable def accL(G:Gram)(q:Whole)(i t:Nat):List Ac2:=if redB G q i G.rules.length t=true then[(3,0)]else[]
noncomputable def redL(G:Gram)(q:Whole)(i t:Nat):List Ac2:=((List.range G.rules.length).filter fun k=>redB G q i k t).map fun k:Nat=>(2,(k:Int))
noncomputable def actL(G:Gram)(q:Whole)(i t:Nat):List Ac2:=zBS q i t++accL G q i t++redL G q i t
noncomputable def fstA(G:Gram)(q:Whole)(i t:Nat):Ac2:=(actL G q i t).headD (0,0)
noncomputable def cellC(G:Gram)(q:Whole)(i t:Nat):List Cl4:=(actL G q i t).tail.map fun b=>((i:Int),(t:Int),fstA G q i t,b)
noncomputable def rowC(G:Gram)(q:Whole)(i:Nat):List Cl4:=(List.range (G.terms.length+1)).flatMap (cellC G q i)
noncomputable def zA6(G:Gram)(q:Whole):List Cl4:=(List.range q.1.length).flatMap (rowC G q)
noncomputable def zU2(G:Gram)(q:Whole)(i:Nat):List Ac2:=(List.range (G.terms.length+1)).map (fstA G q i)
def zU9(G:Gram)(q:Whole)(i:Nat):List Int:=(List.range G.nons.length).map fun k:Nat=>leads (q.2.getD i []) ((G.terms.length+1+k:Nat):Int)
structure Tb5 where
 rules:List (Int×List Int)
 acts:List (List Ac2)
 goto:List (List Int)
 terms:Int
 nons:Int
noncomputable def tabL(G:Gram)(q:Whole):Tb5:=⟨G.rules++[zAE G (G.rules.length:Int)],(List.range q.1.length).map (zU2 G q),(List.range q.1.length).map (zU9 G q),(G.terms.length:Int),(G.nons.length:Int)⟩
def tab0:Tb5:=⟨[],[],[],0,0⟩
inductive TabIs (G:Gram):Int->Tb5->Prop
 |bad {er:Int}:Built G er []->er≠0->TabIs G er tab0
 |clash {q:Whole}:checkN G=0->Done G q->q.1.length<=2000->Built G 0 (states q)->zA6 G q≠[]->TabIs G 12 tab0
 |all {q:Whole}:checkN G=0->Done G q->q.1.length<=2000->Built G 0 (states q)->zA6 G q=[]->TabIs G 0 (tabL G q)
theorem zKg{G:Gram}{q:Whole}(h:zA6 G q=[]){i t:Nat}(hi:i<q.1.length)(ht:t<G.terms.length+1):(actL G q i t).length<=1:=by
 unfold zA6 rowC at h;rw[List.flatMap_eq_nil_iff]at h;have h1:=h i (List.mem_range.2 hi);rw[List.flatMap_eq_nil_iff]at h1;have h2:=h1 t (List.mem_range.2 ht);unfold cellC at h2;rw[List.map_eq_nil_iff]at h2;rcases hl:actL G q i t with _|⟨a,_|⟨b,l⟩⟩
 ·simp
 ·simp
 ·rw[hl]at h2;simp at h2
end Ac
namespace Fi
open Gr (Gram nonB zAy)
def zOb(G:Gram)(n:Nat):Prop:=∀r∈G.rules,0<=r.1/\r.1<(n:Int)
def zRF(C:Int->Bool)(F:Int->Int->Bool)(m n:Nat):Nat:=zCx C n+zCy F m n
theorem zRg{C:Int->Bool}{r:Int×List Int}{x:Int}(h:C x=true):addC C r x=true:=by unfold addC;rw[h];rfl
theorem zII{C:Int->Bool}{F:Int->Int->Bool}{r:Int×List Int}{x t:Int}(h:F x t=true):addF C F r x t=true:=by unfold addF;rw[h];rfl
theorem zOi{C:Int->Bool}{r:Int×List Int}(h:allC C r.2=true):addC C r r.1=true:=by unfold addC;rw[h];simp
theorem zOj{C:Int->Bool}{F:Int->Int->Bool}{r:Int×List Int}{t:Int}(h:zAe C F r.2 t=true):addF C F r r.1 t=true:=by unfold addF;rw[h];simp
structure TriedF (G:Gram) (n:Nat) (C0:Int->Bool) (F0:Int->Int->Bool) (j:Nat) (C:Int->Bool) (F:Int->Int->Bool) (b:Bool):Prop where
 snd:Snd G C F
 leaf:Leaf G F
 no:b=false->(C=C0/\F=F0)/\∀i (h:i<G.rules.length),i<j->Shut C0 F0 G.rules[i]
 yes:b=true->zRF C F (G.terms.length+1) n<zRF C0 F0 (G.terms.length+1) n
theorem zTQ{G:Gram}{n:Nat}{C:Int->Bool}{F:Int->Int->Bool}(h:Snd G C F)(hl:Leaf G F):TriedF G n C F 0 C F false:=⟨h,hl,fun _=>⟨⟨rfl,rfl⟩,fun i _ hi=>absurd hi (by omega)⟩,fun h=>by cases h⟩
theorem TriedF.all{G:Gram}{n:Nat}{C0 C:Int->Bool}{F0 F:Int->Int->Bool}{j:Nat}(h:TriedF G n C0 F0 j C F false)(hj:¬j<G.rules.length):Just G C F:=by
 obtain⟨⟨e1,e2⟩,e3⟩:=h.no rfl;refine zM0 h.snd h.leaf fun r hr=>?_
 obtain⟨i,hi,rfl⟩:=List.getElem_of_mem hr;rw[e1,e2];exact e3 i hi (by omega)
def zGt:Int->Bool:=fun _=>false
def zCg(G:Gram):Int->Int->Bool:=fun x t=>decide (x=t/\0<=x/\x<=(G.terms.length:Int))
theorem snd0(G:Gram):Snd G zGt (zCg G):=by
 refine⟨(fun x h=>by cases h),fun x t h=>?_⟩;unfold zCg at h;rw[decide_eq_true_iff]at h;obtain⟨rfl,h1,h2⟩:=h;exact .leaf (by rw[zAy];omega)
theorem zVK(G:Gram):Leaf G (zCg G):=fun x hx=>by
 unfold zCg;rw[decide_eq_true_iff];rw[zAy]at hx;omega
def behP(C:Int->Bool)(F B:Int->Int->Bool)(r:Int×List Int)(k:Nat)(t:Int):Bool:=zAe C F (r.2.drop (k+1)) t||(allC C (r.2.drop (k+1))&&B r.1 t)
def addB(C:Int->Bool)(F B:Int->Int->Bool)(r:Int×List Int)(k:Nat)(x:Int):Int->Int->Bool:=fun y t=>B y t||(decide (y=x)&&behP C F B r k t)
def zRX(G:Gram)(C:Int->Bool)(F B:Int->Int->Bool)(r:Int×List Int)(k:Nat):Prop:=∀hk:k<r.2.length,nonB G r.2[k]=true->∀t,behP C F B r k t=true->B r.2[k] t=true
theorem zOr{G:Gram}{C:Int->Bool}{F B:Int->Int->Bool}{r:Int×List Int}(h:∀k,zRX G C F B r k):zTe G C F B r:=fun pre x post e hn=>by
 have hl:pre.length<r.2.length:=by rw[e,List.length_append,List.length_cons];omega
 have hx:r.2[pre.length]=x:=by
  have:r.2[pre.length]?=some x:=by rw[e];simp
  rw[List.getElem?_eq_getElem hl]at this;injection this
 have hd:r.2.drop (pre.length+1)=post:=by
  rw[e,←List.drop_drop,List.drop_left]
  rfl
 have hp:=h pre.length hl (by rw[hx];exact hn);rw[hx]at hp;unfold behP at hp;rw[hd]at hp;exact⟨fun t ht=>hp t (by rw[ht];rfl),fun ha t ht=>hp t (by rw[ha,ht];simp)⟩
theorem zL3{G:Gram}{C:Int->Bool}{F B:Int->Int->Bool}(j:Just G C F)(hb:BSnd G B){r:Int×List Int}(hr:r∈G.rules){k:Nat}(hk:k<r.2.length)(hn:nonB G r.2[k]=true){t:Int}(h:behP C F B r k t=true):Fol G r.2[k] t:=by
 have e:r.2=r.2.take k++r.2[k]::r.2.drop (k+1):=by
  rw[←List.drop_eq_getElem_cons hk,List.take_append_drop]
 unfold behP at h;rw[Bool.or_eq_true,Bool.and_eq_true]at h;rcases h with h|⟨h1,h2⟩
 ·exact .next hr e hn ((j.line _ _).1 h)
 ·exact .last hr e hn ((j.all _).1 h1) (hb.fol _ _ h2)
structure TriedB (G:Gram) (n:Nat) (C:Int->Bool) (F B0:Int->Int->Bool) (j k:Nat) (B:Int->Int->Bool) (b:Bool):Prop where
 snd:BSnd G B
 start:B G.start 0=true
 no:b=false->B=B0/\(∀i (h:i<G.rules.length),i<j->∀l,zRX G C F B0 G.rules[i] l)/\∀h:j<G.rules.length,∀l,l<k->zRX G C F B0 G.rules[j] l
 yes:b=true->zCy B (G.terms.length+1) n<zCy B0 (G.terms.length+1) n
theorem zI7{G:Gram}{n:Nat}{C:Int->Bool}{F B:Int->Int->Bool}(h:BSnd G B)(h0:B G.start 0=true):TriedB G n C F B 0 0 B false:=
 ⟨h,h0,fun _=>⟨rfl,(fun i _ hi=>absurd hi (by omega)),fun _ l hl=>absurd hl (by omega)⟩,fun h=>by cases h⟩
theorem TriedB.skip{G:Gram}{n:Nat}{C:Int->Bool}{F B0 B:Int->Int->Bool}{j k:Nat}{b:Bool}(h:TriedB G n C F B0 j k B b)(hj:j<G.rules.length)(hs:∀hk:k<G.rules[j].2.length,nonB G G.rules[j].2[k]=false):TriedB G n C F B0 j (k+1) B b:=by
 refine⟨h.snd,h.start,fun e=>?_,h.yes⟩;obtain⟨e1,e2,e3⟩:=h.no e;refine⟨e1,e2,fun hj l hl=>?_⟩
 by_cases he:l=k
 ·subst he;exact fun hk hn=>by rw[hs hk]at hn;cases hn
 ·exact e3 hj l (by omega)
theorem TriedB.step{G:Gram}{n:Nat}{C:Int->Bool}{F B0 B:Int->Int->Bool}{j k:Nat}{b c:Bool}(h:TriedB G n C F B0 j k B b)(hJ:Just G C F)(hj:j<G.rules.length)(hk:k<G.rules[j].2.length)(hn:nonB G G.rules[j].2[k]=true)
  (h0:0<=G.rules[j].2[k]) (h1:G.rules[j].2[k]<(n:Int)) (hc:c=true↔∃t,behP C F B G.rules[j] k t=true/\B G.rules[j].2[k] t=false):
  TriedB G n C F B0 j (k+1) (addB C F B G.rules[j] k G.rules[j].2[k]) (b||c):=by
 have hm:=List.getElem_mem hj;have hbs:BSnd G (addB C F B G.rules[j] k G.rules[j].2[k]):=h.snd.put fun t ht=>zL3 hJ h.snd hm hk hn ht
 have le:∀{x t:Int},B x t=true->addB C F B G.rules[j] k G.rules[j].2[k] x t=true:=fun {x t} e=>by unfold addB;rw[e];rfl
 cases c with
 |false=>
  have hsh:∀t,behP C F B G.rules[j] k t=true->B G.rules[j].2[k] t=true:=fun t ht=>by
   cases e:B G.rules[j].2[k] t with
   |true=>rfl
   |false=>have:=hc.2 ⟨t,ht,e⟩;cases this
  have same:addB C F B G.rules[j] k G.rules[j].2[k]=B:=by
   funext x t
   unfold addB
   by_cases e:x=G.rules[j].2[k]
   ·subst e;cases ha:behP C F B G.rules[j] k t with
    |false=>simp
    |true=>simp[hsh t ha]
   ·simp[e]
  rw[same,Bool.or_false];refine⟨h.snd,h.start,fun e=>?_,h.yes⟩;obtain⟨e1,e2,e3⟩:=h.no e;refine⟨e1,e2,fun hj' l hl=>?_⟩
  by_cases he:l=k
  ·subst he;rw[←e1];exact fun _ _ t ht=>hsh t ht
  ·exact e3 hj' l (by omega)
 |true=>
  obtain⟨t,h2,h3⟩:=hc.1 rfl;obtain⟨t0,t1⟩:=zMX (zL3 hJ h.snd hm hk hn h2);have et:((t.toNat:Nat):Int)=t:=by omega
  have ex:((G.rules[j].2[k].toNat:Nat):Int)=G.rules[j].2[k]:=by omega
  have hg:zCy (addB C F B G.rules[j] k G.rules[j].2[k]) (G.terms.length+1) n<zCy B (G.terms.length+1) n:=
   zJp (k:=G.rules[j].2[k].toNat) (fun x t _ _ e=>le e) (by omega)
    (zGe (k:=t.toNat) (fun i _ e=>le e) (by omega) (by rw[ex,et];exact h3) (by rw[ex,et];unfold addB;rw[h2];simp))
  rw[Bool.or_true];refine⟨hbs,le h.start,(fun e=>by cases e),fun _=>?_⟩;cases b with
  |false=>
   have e1:=(h.no rfl).1;rw[e1]at hg⊢;exact hg
  |true=>exact Nat.lt_trans hg (h.yes rfl)
theorem TriedB.next{G:Gram}{n:Nat}{C:Int->Bool}{F B0 B:Int->Int->Bool}{j k:Nat}{b:Bool}(h:TriedB G n C F B0 j k B b)(hj:j<G.rules.length)(hk:¬k<G.rules[j].2.length):TriedB G n C F B0 (j+1) 0 B b:=by
 refine⟨h.snd,h.start,fun e=>?_,h.yes⟩;obtain⟨e1,e2,e3⟩:=h.no e;refine⟨e1,fun i hi hl l=>?_,fun _ l hl=>absurd hl (by omega)⟩
 by_cases he:i=j
 ·subst he
  by_cases hlk:l<k
  ·exact e3 hi l hlk
  ·exact fun hl2=>absurd hl2 (by omega)
 ·exact e2 i hi (by omega) l
theorem TriedB.all{G:Gram}{n:Nat}{C:Int->Bool}{F B0 B:Int->Int->Bool}{j k:Nat}(h:TriedB G n C F B0 j k B false)(hJ:Just G C F)(hj:¬j<G.rules.length):∀x t,B x t=true↔Fol G x t:=by
 obtain⟨e1,e2,_⟩:=h.no rfl;refine zL4 hJ h.snd h.start fun r hr=>?_
 obtain⟨i,hi,rfl⟩:=List.getElem_of_mem hr;rw[e1];exact zOr fun l=>e2 i hi (by omega) l
def zCX(G:Gram):Int->Int->Bool:=fun x t=>decide (x=G.start/\t=0)
theorem zU3(G:Gram):BSnd G (zCX G)/\zCX G G.start 0=true:=by
 refine⟨⟨fun x t h=>?_⟩,by simp[zCX]⟩;unfold zCX at h;rw[decide_eq_true_iff]at h;obtain⟨rfl,rfl⟩:=h;exact .start
end Fi
namespace Fi
open Gr (Gram)
open Bt (Upto has orr gains els zHN)
structure TriedE (G:Gram) (n:Nat) (C0:Int->Bool) (j:Nat) (C:Int->Bool) (b:Bool):Prop where
 snd:∀x,C x=true->Can G x
 no:b=false->C=C0/\∀i (h:i<G.rules.length),i<j->allC C0 G.rules[i].2=true->C0 G.rules[i].1=true
 yes:b=true->zCx C n<zCx C0 n
theorem zI8{G:Gram}{n:Nat}{C:Int->Bool}(h:∀x,C x=true->Can G x):TriedE G n C 0 C false:=⟨h,fun _=>⟨rfl,fun i _ hi=>absurd hi (by omega)⟩,fun h=>by cases h⟩
theorem TriedE.step{G:Gram}{n:Nat}{C0 C:Int->Bool}{j:Nat}{b c:Bool}(h:TriedE G n C0 j C b)(hl:zOb G n)(hj:j<G.rules.length)(hc:c=true↔allC C G.rules[j].2=true/\C G.rules[j].1=false):
  TriedE G n C0 (j+1) (addC C G.rules[j]) (b||c):=by
 have hm:=List.getElem_mem hj
 have hs:∀x,addC C G.rules[j] x=true->Can G x:=fun x k=>by
  unfold addC at k;rw[Bool.or_eq_true,Bool.and_eq_true,decide_eq_true_iff]at k;rcases k with k|⟨e,k⟩
  ·exact h.snd x k
  ·subst e;exact .mk _ hm fun z hz=>h.snd z (zCG.1 k z hz)
 cases c with
 |false=>
  have hg:allC C G.rules[j].2=true->C G.rules[j].1=true:=fun k=>by
   cases e:C G.rules[j].1 with
   |true=>rfl
   |false=>have:=hc.2 ⟨k,e⟩;cases this
  rw[zG0 hg,Bool.or_false];refine⟨h.snd,fun e=>?_,h.yes⟩;obtain⟨e1,e3⟩:=h.no e;refine⟨e1,fun i hi hl=>?_⟩
  by_cases he:i=j
  ·subst he;rw[←e1];exact hg
  ·exact e3 i hi (by omega)
 |true=>
  obtain⟨h2,h3⟩:=hc.1 rfl;obtain⟨l0,l1⟩:=hl _ hm;have e:((G.rules[j].1.toNat:Nat):Int)=G.rules[j].1:=by omega
  have hg:=zGe (P:=C) (Q:=addC C G.rules[j]) (n:=n) (k:=G.rules[j].1.toNat) (fun i _ k=>zRg k) (by omega) (by rw[e];exact h3) (by rw[e];exact zOi h2);rw[Bool.or_true];refine⟨hs,(fun e=>by cases e),fun _=>?_⟩;cases b with
  |false=>
   have e1:=(h.no rfl).1;rw[e1]at hg⊢;exact hg
  |true=>exact Nat.lt_trans hg (h.yes rfl)
theorem TriedE.all{G:Gram}{n:Nat}{C0 C:Int->Bool}{j:Nat}(h:TriedE G n C0 j C false)(hj:¬j<G.rules.length):C=canB G:=by
 obtain⟨e1,e3⟩:=h.no rfl
 have hc:∀x,Can G x->C x=true:=fun x k=>by
  induction k with
  |mk r hr _ ih=>
   obtain⟨i,hi,rfl⟩:=List.getElem_of_mem hr;rw[e1]at ih⊢;exact e3 i hi (by omega) (zCG.2 fun z hz=>ih z hz)
 funext x
 rw[Bool.eq_iff_iff,zBL];exact⟨h.snd x,hc x⟩
structure TriedG (G:Gram) (n:Nat) (F0:Int->Int->Bool) (j:Nat) (F:Int->Int->Bool) (b:Bool):Prop where
 snd:Snd G (canB G) F
 leaf:Leaf G F
 no:b=false->F=F0/\∀i (h:i<G.rules.length),i<j->∀t,zAe (canB G) F0 G.rules[i].2 t=true->F0 G.rules[i].1 t=true
 yes:b=true->zCy F (G.terms.length+1) n<zCy F0 (G.terms.length+1) n
theorem zI9{G:Gram}{n:Nat}{F:Int->Int->Bool}(h:Snd G (canB G) F)(hl:Leaf G F):TriedG G n F 0 F false:=⟨h,hl,fun _=>⟨rfl,fun i _ hi=>absurd hi (by omega)⟩,fun h=>by cases h⟩
theorem TriedG.step{G:Gram}{n:Nat}{F0 F:Int->Int->Bool}{j:Nat}{b c:Bool}(h:TriedG G n F0 j F b)(hl:zOb G n)(hj:j<G.rules.length)(hc:c=true↔∃t,zAe (canB G) F G.rules[j].2 t=true/\F G.rules[j].1 t=false):
  TriedG G n F0 (j+1) (addF (canB G) F G.rules[j]) (b||c):=by
 have hm:=List.getElem_mem hj;have hs:=h.snd.addF hm;have hlf:Leaf G (addF (canB G) F G.rules[j]):=fun x hx=>zII (h.leaf x hx)
 cases c with
 |false=>
  have hg:∀t,zAe (canB G) F G.rules[j].2 t=true->F G.rules[j].1 t=true:=fun t k=>by
   cases e:F G.rules[j].1 t with
   |true=>rfl
   |false=>have:=hc.2 ⟨t,k,e⟩;cases this
  rw[zLw hg,Bool.or_false];refine⟨h.snd,h.leaf,fun e=>?_,h.yes⟩;obtain⟨e1,e3⟩:=h.no e;refine⟨e1,fun i hi hl=>?_⟩
  by_cases he:i=j
  ·subst he;rw[←e1];exact hg
  ·exact e3 i hi (by omega)
 |true=>
  obtain⟨t,h2,h3⟩:=hc.1 rfl;obtain⟨t0,t1⟩:=zB8 (h.snd.line h2);obtain⟨l0,l1⟩:=hl _ hm;have et:((t.toNat:Nat):Int)=t:=by omega
  have e:((G.rules[j].1.toNat:Nat):Int)=G.rules[j].1:=by omega
  have hg:=zJp (F:=F) (H:=addF (canB G) F G.rules[j]) (m:=G.terms.length+1) (n:=n) (k:=G.rules[j].1.toNat) (fun x t _ _ k=>zII k) (by omega)
   (zGe (k:=t.toNat) (fun i _ k=>zII k) (by omega) (by rw[e,et];exact h3) (by rw[e,et];exact zOj h2))
  rw[Bool.or_true];refine⟨hs,hlf,(fun e=>by cases e),fun _=>?_⟩;cases b with
  |false=>
   have e1:=(h.no rfl).1;rw[e1]at hg⊢;exact hg
  |true=>exact Nat.lt_trans hg (h.yes rfl)
theorem TriedG.all{G:Gram}{n:Nat}{F0 F:Int->Int->Bool}{j:Nat}(h:TriedG G n F0 j F false)(hj:¬j<G.rules.length):F=fstB G:=by
 obtain⟨e1,e3⟩:=h.no rfl
 have hJ:Just G (canB G) F:=zM0 h.snd h.leaf fun r hr=>by
  obtain⟨i,hi,rfl⟩:=List.getElem_of_mem hr;refine⟨fun k=>zBL.2 (.mk _ hr fun z hz=>zBL.1 (zCG.1 k z hz)),?_⟩;rw[e1];exact e3 i hi (by omega)
 exact hJ.eq.2
theorem zT6{G:Gram}{B:Int->Int->Bool}(h:∀x t,B x t=true↔Fol G x t):B=folB G:=by
 funext x t
 rw[Bool.eq_iff_iff,h,zPC]
theorem zOG(G:Gram):∀x,zGt x=true->Can G x:=fun x h=>by cases h
theorem zVU(G:Gram):Snd G (canB G) (zCg G):=⟨fun x h=>zBL.1 h,(snd0 G).fst⟩
def zBf(C:Int->Bool):List Int->Nat
 |[]=>0
 |y::l=>if C y=true then zBf C l+1 else 1
theorem zPK(C:Int->Bool)(l:List Int):zBf C l<=l.length:=by
 induction l with
 |nil=>exact Nat.le_refl _
 |cons y l ih=>
  unfold zBf;rw[List.length_cons];split<;>omega
theorem zHW{C:Int->Bool}:∀{l:List Int} {i:Nat} (h:i<l.length),(∀k (hk:k<l.length),k<i->C l[k]=true)->C l[i]=false->zBf C l=i+1/\allC C l=false
 |[],i,h,_,_=>absurd h (by simp)
 |y::l,0,_,_,hc=>by
  have hy:C y=false:=hc;unfold zBf;rw[hy];exact⟨rfl,by unfold allC;rw[List.all_cons,hy];rfl⟩
 |y::l,i+1,h,hb,hc=>by
  have hy:C y=true:=hb 0 (by simp) (by omega);obtain⟨e1,e2⟩:=zHW (C:=C) (l:=l) (i:=i) (by simpa using h) (fun k hk hki=>hb (k+1) (by simpa using hk) (by omega)) hc;unfold zBf;rw[hy,e1];refine⟨rfl,?_⟩;unfold allC at e2⊢;rw[List.all_cons,hy,e2]
  rfl
theorem zHV{C:Int->Bool}:∀{l:List Int},(∀k (hk:k<l.length),C l[k]=true)->zBf C l=l.length/\allC C l=true
 |[],_=>⟨rfl,rfl⟩
 |y::l,hb=>by
  have hy:C y=true:=hb 0 (by simp);obtain⟨e1,e2⟩:=zHV (C:=C) (l:=l) (fun k hk=>hb (k+1) (by simpa using hk));unfold zBf;rw[hy,e1];refine⟨rfl,?_⟩;unfold allC at e2⊢;rw[List.all_cons,hy,e2]
  rfl
theorem zB5(C:Int->Bool)(F:Int->Int->Bool)(t:Int):∀l:List Int,((l.take (zBf C l)).any fun y=>F y t)=zAe C F l t
 |[]=>rfl
 |y::l=>by
  have ih:=zB5 C F t l;unfold zBf zAe;cases hy:C y with
  |true=>simp only[if_pos,List.take_succ_cons,List.any_cons,ih,Bool.true_and]
  |false=>simp
def rw'(P:Int->Bool):Nat->Bool:=fun i=>P (i:Int)
def Rng(P:Int->Bool)(n:Nat):Prop:=∀x,P x=true->0<=x/\x<(n:Int)
theorem zUE{P:Int->Bool}{n:Nat}(h:Rng P n)(x:Int):has (rw' P) x=P x:=by
 unfold has rw'
 by_cases h0:0<=x
 ·rw[decide_eq_true h0,show((x.toNat:Nat):Int)=x from by omega]
  rfl
 ·rw[decide_eq_false h0];cases e:P x with
  |false=>rfl
  |true=>exact absurd (h x e).1 h0
theorem zTW{P:Int->Bool}{n:Nat}(h:Rng P n)(hn:n<=4096):Upto (rw' P) n:=⟨hn,fun i hi=>by
 unfold rw';cases e:P (i:Int)with
 |false=>rfl
 |true=>have:=(h _ e).2;omega⟩
theorem zTy{P:Int->Bool}{n:Nat}(h:Rng P n)(hn:n<=4096):(els (rw' P)).map (fun i:Nat=>(i:Int))=lst P n:=by
 rw[zHN (zTW h hn)]
 rfl
def jn(B:Nat->Bool)(F:Int->Int->Bool)(X:List Int):Nat->Bool:=fun i=>B i||X.any fun y=>F y (i:Int)
theorem zUG(B:Nat->Bool)(F:Int->Int->Bool):jn B F []=B:=by
 funext i
 simp[jn]
theorem zSd{B:Nat->Bool}{F:Int->Int->Bool}{n:Nat}(X:List Int){y:Int}(h:Rng (F y) n):orr (jn B F X) n (rw' (F y))=jn B F (X++[y]):=by
 funext i
 unfold orr jn rw';rw[List.any_append];cases e:F y (i:Int)with
 |false=>simp[e]
 |true=>
  have:=(h _ e).2;have h2:i<n:=by omega
  simp[e,h2]
theorem zSc{B:Nat->Bool}{F:Int->Int->Bool}(X:List Int){y:Int}(h:B=rw' (F y)):jn B F X=jn B F (X++[y]):=by
 funext i
 unfold jn;rw[List.any_append,h];unfold rw';cases e:F y (i:Int)<;>simp[e]
def Gn(B:Nat->Bool)(F:Int->Int->Bool)(X:List Int)(b:Bool):Prop:=b=true↔∃i:Nat,(∃y∈X,F y (i:Int)=true)/\B i=false
theorem zUB(B:Nat->Bool)(F:Int->Int->Bool):Gn B F [] false:=by
 unfold Gn;constructor
 ·intro h;cases h
 ·rintro⟨_,⟨_,h,_⟩,_⟩;cases h
theorem zSM{B:Nat->Bool}{F:Int->Int->Bool}{n:Nat}{X:List Int}{y:Int}{b:Bool}(h:Rng (F y) n)(hb:Gn B F X b):Gn B F (X++[y]) (b||gains (jn B F X) n (rw' (F y))):=by
 unfold Gn at hb⊢;rw[Bool.or_eq_true,hb];constructor
 ·rintro(⟨i,⟨z,hz,h1⟩,h2⟩|hg)
  ·exact⟨i,⟨z,List.mem_append_left _ hz,h1⟩,h2⟩
  ·unfold gains at hg;rw[List.any_eq_true]at hg;obtain⟨i,hi,h1⟩:=hg;rw[Bool.and_eq_true]at h1;refine⟨i,⟨y,by simp,h1.1⟩,?_⟩;have h2:=h1.2;unfold jn at h2;cases e:B i with
   |false=>rfl
   |true=>rw[e]at h2;simp at h2
 ·rintro⟨i,⟨z,hz,h1⟩,h2⟩;rcases List.mem_append.1 hz with hz|hz
  ·exact .inl ⟨i,⟨z,hz,h1⟩,h2⟩
  ·rw[List.mem_singleton]at hz;subst hz
   by_cases e:∃y∈X,F y (i:Int)=true
   ·exact .inl ⟨i,e,h2⟩
   ·refine .inr (Bt.zMc (i:=i) (by have:=(h _ h1).2;omega) ?_ h1);unfold jn;rw[h2,Bool.false_or,List.any_eq_false];exact fun y hy k=>e ⟨y,hy,k⟩
theorem zSL{B:Nat->Bool}{F:Int->Int->Bool}{X:List Int}{y:Int}{b:Bool}(h:∀i:Nat,F y (i:Int)=true->B i=true)(hb:Gn B F X b):Gn B F (X++[y]) b:=by
 unfold Gn at hb⊢;rw[hb];constructor
 ·rintro⟨i,⟨z,hz,h1⟩,h2⟩;exact⟨i,⟨z,List.mem_append_left _ hz,h1⟩,h2⟩
 ·rintro⟨i,⟨z,hz,h1⟩,h2⟩;rcases List.mem_append.1 hz with hz|hz
  ·exact⟨i,⟨z,hz,h1⟩,h2⟩
  ·rw[List.mem_singleton]at hz;subst hz;rw[h i h1]at h2;cases h2
