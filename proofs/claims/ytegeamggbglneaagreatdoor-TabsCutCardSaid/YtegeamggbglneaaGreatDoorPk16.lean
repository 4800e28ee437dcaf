/- Proof. -/
import Derived.Laws.BytesArg
import Derived.Test.YtegeamggbglneaaGreatDoorPk06
import Derived.Test.YtegeamggbglneaaGreatDoorPk08
import Derived.DeepKeys4
set_option maxHeartbeats 2000000
set_option maxRecDepth 100000
set_option linter.unusedVariables false
namespace Go.Proofs.YtegeamggbglneaaGreatDoor
namespace Au
open Gr (ai checkN ax cN top)
open Im
open It (d7 num yE YP)
def kb(x:au):List Int:=[x.1 % 256,x.1 / 256 % 256,x.2 % 256]
def cY(L:List au):List Int:=L.flatMap kb
def dJ(L:List au):ByteArray:=strOfNums (cY L)
def gu(L:List au):Prop:=∀x∈L,(0<=x.1/\x.1<65536)/\0<=x.2/\x.2<256
theorem MH(x):(kb x).length=3:=rfl
theorem TQ(L):(cY L).length=L.length*3:=by
 unfold cY
 induction L with
 |nil=>rfl
 |cons x L ih=>
  rw[List.flatMap_cons,List.length_append,ih,MH,List.length_cons];omega
theorem zNh(L)(x):cY (L++[x])=cY L++kb x:=by simp[cY]
theorem Vd(L):∀n∈cY L,0<=n/\n<256:=fun n hn=>by
 unfold cY at hn;rw[List.mem_flatMap]at hn;obtain⟨x,_,h⟩:=hn;simp only[kb,List.mem_cons,List.not_mem_nil,or_false]at h;rcases h with rfl|rfl|rfl<;>omega
theorem zVM{x y}(hx:(0<=x.1/\x.1<65536)/\0<=x.2/\x.2<256)(hy:(0<=y.1/\y.1<65536)/\0<=y.2/\y.2<256)(h:kb x=kb y):x=y:=by
 simp only[kb,List.cons.injEq,and_true]at h;obtain⟨x1,x2⟩:=x;obtain⟨y1,y2⟩:=y;dsimp only at*;exact Prod.ext (by dsimp only;omega) (by dsimp only;omega)
theorem Wq:∀{L M:List au},gu L->gu M->cY L=cY M->L=M
 |[],[],_,_,_=>rfl
 |[],y::M,_,_,h=>by simp[cY,kb]at h
 |x::L,[],_,_,h=>by simp[cY,kb]at h
 |x::L,y::M,hL,hM,h=>by
  have h':kb x++cY L=kb y++cY M:=by simpa[cY]using h
  obtain⟨h1,h2⟩:=List.append_inj h' (by rw[MH,MH]);rw[zVM (hL x (List.mem_cons_self ..)) (hM y (List.mem_cons_self ..)) h1,Wq (fun z hz=>hL z (List.mem_cons_of_mem _ hz)) (fun z hz=>hM z (List.mem_cons_of_mem _ hz)) h2]
theorem bytes_inj:∀{a b:List Int},(∀n∈a,0<=n/\n<256)->(∀n∈b,0<=n/\n<256)->(a.map fun n=>UInt8.ofNat n.toNat)=(b.map fun n=>UInt8.ofNat n.toNat)->a=b
 |[],[],_,_,_=>rfl
 |[],y::b,_,_,h=>by simp at h
 |x::a,[],_,_,h=>by simp at h
 |x::a,y::b,ha,hb,h=>by
  simp only[List.map_cons,List.cons.injEq]at h;have h1:=ha x (List.mem_cons_self ..);have h2:=hb y (List.mem_cons_self ..);have h3:=congrArg UInt8.toNat h.1;rw[UInt8.toNat_ofNat',UInt8.toNat_ofNat']at h3;rw[show x=y by omega,bytes_inj (fun n hn=>ha n (List.mem_cons_of_mem _ hn)) (fun n hn=>hb n (List.mem_cons_of_mem _ hn)) h.2]
theorem Wp{L M}(hL:gu L)(hM:gu M)(h:dJ L=dJ M):L=M:=by
 unfold dJ at h;have h':(strOfNums (cY L)).data.toList=(strOfNums (cY M)).data.toList:=by rw[h]
 rw[strOfNums_data,strOfNums_data]at h';exact Wq hL hM (bytes_inj (Vd L) (Vd M) h')
theorem zNg(L):(dJ L).size=L.length*3:=by
 unfold dJ;rw[strOfNums_size,TQ]
def lu(ks:List (List au)):List ByteArray:=ks.map dJ
theorem OA{ks}{k}(hs:∀x∈ks,gu x)(hk:gu k):d7 (lu ks) (dJ k)=true↔k∈ks:=by
 rw[yE];unfold lu;rw[List.mem_map];constructor
 ·rintro⟨x,hx,e⟩;rw[←Wp (hs x hx) hk e];exact hx
 ·exact fun h=>⟨k,h,rfl⟩
theorem zTk{ks}{k}(hs:∀x∈ks,gu x)(hk:gu k)(hn:ks.Nodup)(h:k∈ks):num (lu ks) (dJ k)=ks.idxOf k:=by
 obtain⟨hl,e⟩:=YP ((OA hs hk).2 h);generalize num (lu ks) (dJ k)=n at hl e⊢;have hl':n<ks.length:=by simpa[lu]using hl
 have e':dJ ks[n]=dJ k:=by simpa[lu]using e
 have:=Wp (hs _ (List.getElem_mem hl')) hk e';rw[←this,hn.idxOf_getElem]
theorem G8{G}(hv:checkN G=0){x}(h:bo G x=true):(0<=x.1/\x.1<65536)/\0<=x.2/\x.2<256:=by
 obtain⟨h1,h2,h3,h4⟩:=Mr hv h;exact⟨⟨h1,by omega⟩,h3,by omega⟩
def E9(G:ai)(s:Int)(x:au):Option au:=if aZ G x=true/\aQ G x=s then some (x.1,x.2+1)else none
def jR(G:ai)(c:List au)(s:Int):List au:=c.filterMap (E9 G s)
theorem zRt{G}{c}(h:iG c)(s):Is (jR G c s) (E6 G c s):=by
 refine⟨?_,fun x=>?_⟩
 ·unfold iG jR;rw[List.pairwise_filterMap];refine h.imp fun {a b} hab x hx y hy=>?_
  unfold E9 at hx hy;split at hx
  ·split at hy
   ·injection hx with hx
    injection hy with hy
    subst hx;subst hy;unfold gH at hab⊢;dsimp only;omega
   ·cases hy
  ·cases hx
 ·unfold jR;rw[List.mem_filterMap];constructor
  ·rintro⟨y,hy,e⟩;unfold E9 at e;split at e
   ·rename_i q;injection e with e
    exact⟨y,hy,q.1,q.2,e.symm⟩
   ·cases e
  ·rintro⟨y,hy,h1,h2,e⟩;refine⟨y,hy,?_⟩;unfold E9;rw[if_pos ⟨h1,h2⟩,e]
theorem WZ{G}{c}(h:iG c)(s):jR G c s=cd G c s:=(zRt h s).uniq (rN G c s)
theorem UD(G)(c)(x)(s):jR G (c++[x]) s=jR G c s++(if aZ G x=true/\aQ G x=s then[(x.1,x.2+1)]else[]):=by
 unfold jR;rw[List.filterMap_append]
 congr 1
 unfold E9
 by_cases h:aZ G x=true/\aQ G x=s
 ·simp[h]
 ·simp[h]
theorem zO7(G)(c)(s):(jR G c s).length<=c.length:=List.length_filterMap_le _ _
theorem XP{G}(hv:checkN G=0)(c):cd G c 0=[]:=by
 cases e:cd G c 0 with
 |nil=>rfl
 |cons x l=>
  have hx:x∈cd G c 0:=by rw[e];exact List.mem_cons_self ..
  obtain⟨y,_,h1,h2,_⟩:=((rN G c 0).2 x).1 hx
  exfalso
  obtain⟨h3,h4⟩:=kx.1 h1;obtain⟨h5,h6⟩:=iD.1 h3;obtain⟨y1,y2⟩:=y;dsimp only at*;obtain⟨d,rfl⟩:=Int.eq_ofNat_of_zero_le h6.1
  have hr:cN G y1=true:=by
   unfold cN;exact decide_eq_true h5
  have hd:d<(ax G y1).2.length:=by
   unfold cQ at h4;omega
  have:=(si hr hd).2;have:=uA hv hr hd;omega
def hits(tr:List (Int×Int))(s:Int):Option Int:=(tr.find? fun x=>decide (x.1=s)).map (·.2)
theorem zNO{tr}{s t}(h:∀x∈tr,x.1≠s)(z):hits (tr++[(s,t)]) z=if z=s then some t else hits tr z:=by
 unfold hits;rw[List.find?_append]
 by_cases e:z=s
 ·subst e;rw[if_pos rfl,List.find?_eq_none.2 fun x hx=>by simpa using h x hx];simp
 ·rw[if_neg e];cases tr.find? fun x=>decide (x.1=z)with
  |none=>simp[Ne.symm e]
  |some x=>simp
theorem Uq{G}{ks}{c}{n i}:hits (jS G ks c n) ((i+1:Nat):Int)=if i<n/\cd G c ((i+1:Nat):Int)≠[]then some (ks.idxOf (cd G c ((i+1:Nat):Int)):Int)else none:=by
 unfold hits;cases hf:(jS G ks c n).find? fun x=>decide (x.1=((i+1:Nat):Int))with
 |none=>
  rw[if_neg]
  ·rfl
  ·rintro⟨h1,h2⟩;have hm:((((i+1:Nat):Int),(ks.idxOf (cd G c ((i+1:Nat):Int)):Int)):Int×Int)∈jS G ks c n:=rA.2 ⟨i,h1,rfl,h2,rfl⟩;have:=List.find?_eq_none.1 hf _ hm;simp at this
 |some x=>
  obtain⟨s,t⟩:=x;have hx:=List.mem_of_find?_eq_some hf;have hd:s=((i+1:Nat):Int):=of_decide_eq_true (List.find?_some (p:=fun x:Int×Int=>decide (x.1=((i+1:Nat):Int))) hf);obtain⟨j,hj,h1,h2,h3⟩:=rA.1 hx;obtain rfl:j=i:=by omega
  subst hd;rw[if_pos ⟨hj,h2⟩];simp[h3]
theorem zNP{G}{ks}{c}{n}:hits (jS G ks c n) 0=none:=by
 unfold hits;cases hf:(jS G ks c n).find? fun x=>decide (x.1=0)with
 |none=>rfl
 |some x=>
  obtain⟨s,t⟩:=x;have hx:=List.mem_of_find?_eq_some hf;have hd:s=0:=of_decide_eq_true (List.find?_some (p:=fun x:Int×Int=>decide (x.1=0)) hf);obtain⟨j,hj,h1,_,_⟩:=rA.1 hx;omega
def tgt(ts:List (List (Int×Int)))(x:au):Option Int:=if 0<=x.1 then hits (ts.getD x.1.toNat []) x.2 else none
theorem zUV(x):tgt [] x=none:=by
 unfold tgt;split<;>simp[hits]
theorem zRz(ts)(x):tgt (ts++[[]]) x=tgt ts x:=by
 unfold tgt;split
 ·rw[List.getD_eq_getElem?_getD,List.getD_eq_getElem?_getD]
  congr 1
  rcases Nat.lt_trichotomy x.1.toNat ts.length with h|h|h
  ·rw[List.getElem?_append_left h]
  ·rw[List.getElem?_append_right (by omega),h,List.getElem?_eq_none (Nat.le_refl _)];simp
  ·rw[List.getElem?_eq_none (by simp;omega),List.getElem?_eq_none (by omega)]
 ·rfl
theorem zUW{ts}{tr}{s t}(h:∀x∈tr,x.1≠s)(x):tgt (ts++[tr++[(s,t)]]) x=if x=((ts.length:Int),s)then some t else tgt (ts++[tr]) x:=by
 obtain⟨a,b⟩:=x;unfold tgt;dsimp only
 by_cases h0:0<=a
 ·obtain⟨n,rfl⟩:=Int.eq_ofNat_of_zero_le h0;rw[if_pos h0,if_pos h0,List.getD_eq_getElem?_getD,List.getD_eq_getElem?_getD,Int.toNat_natCast];rcases Nat.lt_trichotomy n ts.length with q|q|q
  ·rw[List.getElem?_append_left q,List.getElem?_append_left q,if_neg];intro e;injection e with e1 e2
   omega
  ·subst q;rw[List.getElem?_append_right (Nat.le_refl _),List.getElem?_append_right (Nat.le_refl _)];simp only[Nat.sub_self,List.getElem?_cons_zero,Option.getD_some];rw[zNO h];simp
  ·rw[List.getElem?_eq_none (by simp;omega),List.getElem?_eq_none (by simp;omega),if_neg];intro e;injection e with e1 e2
   omega
 ·rw[if_neg h0,if_neg h0,if_neg];intro e;injection e with e1 e2
  omega
def ly(ts:List (List (Int×Int)))(i:Int)(n:Nat):List (Int×Int):=(List.range n).filterMap fun(s:Nat)=>(tgt ts (i,(s:Int))).map fun t=>((s:Int),t)
theorem WH(ts:List (List (Int×Int)))(i:Int)(n:Nat):ly ts i (n+1)=ly ts i n++(match tgt ts (i,(n:Int))with|some t=>[((n:Int),t)]|none=>[]):=by
 unfold ly;rw[List.range_succ,List.filterMap_append]
 congr 1
 cases h:tgt ts (i,(n:Int))with
 |none=>simp[h]
 |some t=>simp[h]
theorem WG{ts}{i}{n:Nat}{t}(h:tgt ts (i,(n:Int))=some t):ly ts i (n+1)=ly ts i n++[((n:Int),t)]:=by rw[WH,h]
theorem Ny{ts}{i}{n:Nat}(h:tgt ts (i,(n:Int))=none):ly ts i (n+1)=ly ts i n:=by rw[WH,h,List.append_nil]
theorem X8(ts)(i)(n):(ly ts i n).length<=n:=by
 unfold ly;have:=List.length_filterMap_le (fun(s:Nat)=>(tgt ts (i,(s:Int))).map fun t=>((s:Int),t)) (List.range n)
 rwa [List.length_range]at this
theorem X7{G}{q}(h:cZ G (top G) q){i}(hi:i<q.2.length):ly q.2 (i:Int) (top G+1)=q.2.getD i []:=by
 have ht:=h.trans i hi
 have key:∀s:Int,tgt q.2 ((i:Int),s)=hits (jS G q.1 (fH G (bp q.1 i)) (top G)) s:=fun s=>by
  unfold tgt;dsimp only;rw[if_pos (Int.natCast_nonneg i),Int.toNat_natCast,ht]
 rw[ht];generalize hc:fH G (bp q.1 i)=c at key;generalize hm:top G=m at key
 have sub:∀n,n<=m->ly q.2 (i:Int) (n+1)=jS G q.1 c n:=fun n=>by
  induction n with
  |zero=>
   intro _;rw[Ny (by rw[key];exact zNP)]
   rfl
  |succ n ih=>
   intro hn;rw[yo,←ih (by omega)]
   by_cases he:cd G c ((n+1:Nat):Int)=[]
   ·rw[if_pos he,List.append_nil,Ny];rw[key,Uq,if_neg fun q=>q.2 he]
   ·rw[if_neg he,WG];rw[key,Uq,if_pos ⟨by omega,he⟩]
 exact sub m (Nat.le_refl _)
theorem Uv(G)(c)(ks):∀n,∀x∈(mQ G c n (ks,[])).2,1<=x.1/\x.1<=(n:Int)
 |0,x,hx=>by cases hx
 |n+1,x,hx=>by
  have ih:=Uv G c ks n;rw[DZ]at hx;unfold gW at hx;split at hx
  ·have:=ih x hx;omega
  ·rcases List.mem_append.1 hx with q|q
   ·have:=ih x q;omega
   ·rw[List.mem_singleton]at q;subst q;dsimp only;omega
theorem Vo(G)(c)(ks):∀n,(mQ G c n (ks,[])).1.length<=ks.length+n
 |0=>Nat.le_refl _
 |n+1=>by
  have ih:=Vo G c ks n;rw[DZ];unfold gW;split
  ·omega
  ·dsimp only;split
   ·omega
   ·rw[List.length_append,List.length_singleton];omega
end Au
namespace Au
open Go.RowKit Go.Maps
open Gr (boxed bg step)
open Im
theorem yl{w w'}{row}{m}(hg:w.grownBy w' row)(hm:m<=w.heap.size)(hr:∀k,row=some k->m<=k):Below m w w':=
 ⟨hg.os,hg.tape,hg.output,hg.size,fun i hi=>hg.block i (by omega) fun e=>by have:=hr i e.symm;omega⟩
theorem Oy(x):∀u∈ic x,u.oneCell'=true:=fun u hu=>by
 simp only[ic,List.mem_cons,List.not_mem_nil,or_false]at hu;rcases hu with rfl|rfl<;>rfl
theorem zTd{T}{base}{X}{v}{w}(h:bw T base X v w):∀k,v.ownBlock=some k->base<=k:=fun k hk=>(World.ownsRow.lt h k hk).1
def tF(xs:List Int):List Value:=xs.map (.int .u8)
theorem Mm(xs ys):tF (xs++ys)=tF xs++tF ys:=by simp[tF]
theorem uz:(Tryz.prog.info? 5).map (fun i=>(i.zero,i.size,i.bytes))=some (some (.int .u8 0),1,1):=by kernel_rfl
def kz(base:Nat)(xs:List Int)(v:Value)(w:World):Prop:=w.ownsRow base 5 1 v xs.length (tF xs)
theorem kz.went{base}{X}{v}{w w'}(h:kz base X v w)(hb:Below w.heap.size w w'):kz base X v w':=Sep.bS h fun g hg=>hb.block g (h.lt g hg).2
theorem kz.nil(base)(w):kz base [] (.slice none 0 0) w:=World.ownsRow_nil _ _ _ _
theorem kz.shape{base}{X}{v}{w}(h:kz base X v w):∃a c,v=.slice a X.length c:=by
 obtain⟨a,c,e⟩:=Sep.zK h;exact⟨a,c,e⟩
theorem kz.text{base}{X}{a}{c}{w}(h:kz base X (.slice a X.length c) w):
  (convert 39 9 (.slice a X.length c)).run Tryz.prog w=.ok (.string (strOfNums X)) w:=by
 rcases h.2 with⟨e1,h0⟩|⟨g,cap,cur,he,_⟩
 ·have e:X=[]:=List.eq_nil_of_length_eq_zero h0;subst e;simp only[Value.slice.injEq]at e1;obtain⟨rfl,_,rfl⟩:=e1;exact run_convert_bytes_nil w 39 5 Tryz.underlying39 Tryz.underlying5 _ _ 9 Tryz.underlying9
 ·simp only[Value.slice.injEq]at he;obtain⟨rfl,_,_⟩:=he;have hc:=World.ownsRow.cells h (g:=g) rfl;refine run_convert_bytes_arg w 39 5 Tryz.underlying39 Tryz.underlying5 g 0 X.length c X rfl (fun i hi=>?_) 9 Tryz.underlying9;have:=hc i (.int .u8 (X.getD i 0)) (by simp[tF,hi])
  rwa [WideShapes.add_plain]at this
theorem zPJ(w:World)(n)(hn:n=w.heap.size)(x y z)(t):∀j u,[x,y,z][j]?=some u->(w.alloc (.cells #[x,y,z] t)).cell? ((⟨n,0,none⟩:Addr).add j)=some u:=by
 intro j u hj;subst hn;rw[WideShapes.add_plain]
 match j,hj with
 |0,hj=>exact bg rfl (by simpa using hj)
 |1,hj=>exact bg rfl (by simpa using hj)
 |2,hj=>exact bg rfl (by simpa using hj)
theorem kz.more{base}{L:List au}{v}{w}{k}(hk){p q r}(e:[p,q,r]=kb L[k]){n}(hn:n=(cY (L.take k)).length+3)(h:w.ownsRow base 5 1 v n (tF (cY (L.take k))++[.int .u8 p,.int .u8 q,.int .u8 r])):kz base (cY (L.take (k+1))) v w:=by
 subst hn
 have ht:cY (L.take (k+1))=cY (L.take k)++[p,q,r]:=by
  rw[List.take_succ_eq_append_getElem hk,zNh,e]
 unfold kz;rw[ht,Mm,List.length_append];exact h
theorem zTi(L:List au)(a:Option Addr)(c:Nat)(w:World)(kl:bG a L w)(hf:gu L)(hL:L.length<=1000000):
  Calls Tryz.prog 130 #[.slice a L.length c] w (Gr.Is (.string (dJ L)) w):=by
 obtain⟨i0,hi,hz0,hz1,hz2⟩:=info_parts uz;have KL:=af (fun w1 (b:Below w.heap.size w w1)=>kl.went b);have HF:=af hf;have B0:=af (kz.nil w.heap.size w);clear kl hf;go_enter Tryz.func130,Tryz.ntmps130;go_wp2;go_loopw [3,8] (fun v i wr=>∃j:Nat,j<=L.length/\i=.int .i64 j/\kz w.heap.size (cY (L.take j)) v wr/\Below w.heap.size w wr) (fun _ i _=>L.length-(intOf i).toNat)
 case atStart=>exact⟨0,Nat.zero_le _,rfl,B0.out,.refl _ _⟩
 case round=>
  obtain⟨j,hj,rfl,hB,hW⟩:=hrel;obtain⟨av,cv,rfl⟩:=hB.shape;clear B0
  by_cases hlt:j<L.length
  ·obtain⟨b,o,rfl,c0,c1⟩:=(KL.out wr hW).at j hlt;have hx:=HF.out _ (List.getElem_mem hlt);have HM:=af (fun(v:Value) (w':World) (n:Nat) (p q r:Int) e hn h=>kz.more (base:=w.heap.size) (v:=v) (w:=w') hlt (p:=p) (q:=q) (r:=r) (n:=n) e hn h)
   have hl:(cY (L.take j)).length<=3000000:=by
    rw[TQ,List.length_take];omega
   have B:=af hB;have W:=af hW;clear hB hW;have e1:((L[j].1,L[j].2):au)=L[j]:=rfl;generalize L[j]=x at*;obtain⟨x0,x1⟩:=x;dsimp only at c0 c1 hx;clear e1;generalize cY (L.take j)=X at B HM hl
   have hk:[x0 % 256,x0 / 256,x1]=kb (x0,x1):=by
    unfold kb;dsimp only;rw[show x0 / 256 % 256=x0 / 256 by omega,show x1 % 256=x1 by omega]
   have hs0:(wr.alloc (.cells #[.int .i64 x0,.int .i64 x1] 181)).heap.size=wr.heap.size+1:=by simp
   have jV:=af (Gr.step W.out (Gr.step (boxed wr (.cells #[.int .i64 x0,.int .i64 x1] 181)) (boxed _ (.cells #[.int .u8 (x0 % 256),.int .u8 (x0 / 256),.int .u8 x1] 5))));have RB:=af (B.out.went (Gr.step (boxed wr (.cells #[.int .i64 x0,.int .i64 x1] 181)) (boxed _ (.cells #[.int .u8 (x0 % 256),.int .u8 (x0 / 256),.int .u8 x1] 5))));have NW:=af (zPJ (wr.alloc (.cells #[.int .i64 x0,.int .i64 x1] 181)) (wr.heap.size+1) hs0.symm (.int .u8 (x0 % 256)) (.int .u8 (x0 / 256)) (.int .u8 x1) 5);have hsz:=jV.out.size;have hbl:∀g,(Value.slice av X.length cv).ownBlock=some g->w.heap.size<=g:=fun g hg=>(World.ownsRow.lt B.out g hg).1
   have I4:=af hbl;clear hbl B W;go_wp2_with (at_builtin;refine wpList_append_own_at _ rfl _ _ 39 rfl w.heap.size 5 i0 (.int .u8 0) 1 1 Tryz.underlying39 hi hz0 hz1 hz2 rfl (by decide) _ _ _ rfl RB.out ⟨wr.heap.size+1,0,none⟩ 3 3 [.int .u8 (x0 % 256),.int .u8 (x0 / 256),.int .u8 x1] rfl rfl NW.out (by simp[Value.oneCell']) (by unfold maxLen;omega) (by omega) hsz ?_;intro v' w' hown hg _ _;have HO:=af hown;have HG:=af (jV.out.trans (yl hg hsz I4.out));clear hown hg);go_roundw
   case rel=>exact⟨j+1,by omega,by go_num,HM.out _ _ _ _ _ _ hk rfl HO.out,HG.out⟩
   case measure=>simp[intOf];omega
  ·have hE:j=L.length:=by omega
   subst hE;rw[List.take_length]at hB;rw[List.take_length];have T:=hB.text;have HK:=af (show strOfNums (cY L)=dJ L from rfl);generalize cY L=X at*;generalize strOfNums X=s at*;go_wp2;have e:=HK.out;subst e;go_ret;exact⟨rfl,hW⟩
end Au
namespace Im
open Go.RowKit Go.Maps
open Gr (ai Sh gv bI Bx boxed cN ax yH bg gI cell_later aU)
theorem zWb:laidOutB Tryz.prog=true:=by kernel_rfl
theorem Dt:181<Tryz.prog.types.size:=of_decide_eq_true (by kernel_rfl)
theorem Ll:Keyed Tryz.prog 181:=.of_law (deep_law_laid zWb (m:=2) (by omega) Dt (by kernel_rfl) (by rw[Tryz.underlying181]))
theorem vK:Kt Tryz.prog 181:=
 zWZ _ _ Ll Tryz.underlying181 Tryz.underlying3 Tryz.underlying3 (by kernel_rfl) (by kernel_rfl) (by kernel_rfl) (by kernel_rfl) rfl rfl (by decide) (by decide) (Tryz.prog.types.size-1) (by have:=Dt;omega)
theorem Zf(w):(zeroValue 288).run Tryz.prog w=.ok (.agg #[]) w:=by kernel_rfl
abbrev MS(b n:Nat)(X:au->Prop)(w:World):Prop:=cj (H:=Nat) Tryz.prog 181 unitElem (.agg []) b n X w
abbrev MR(b r n q:Nat)(X Lf:au->Prop)(w:World):Prop:=cf (H:=Nat) Tryz.prog 181 unitElem (.agg []) b r n q X Lf w
structure Bi (W:World) (h:Sh) (G:ai) (x:au) (w:World):Prop where
 bx:Bx W h G w
 i0:w.cell? ⟨W.heap.size+1,0,none⟩=some (.int .i64 x.1)
 i1:w.cell? ⟨W.heap.size+1,1,none⟩=some (.int .i64 x.2)
theorem Bi.start(h)(G)(x)(w)(T U):Bi w h G x ((w.alloc (.cells #[.slice h.a1 G.terms.length h.c1,.slice h.a2 G.ah.length h.c2,.slice h.a3 G.rules.length h.c3,.int .i64 G.start] T)).alloc (.cells #[.int .i64 x.1,.int .i64 x.2] U)):=
 ⟨(Bx.start h G w T).alloc _,bg (by simp) rfl,bg (by simp) rfl⟩
theorem Bi.went{W}{h}{G}{x}{w w'}(k:Bi W h G x w)(hb:Below w.heap.size w w'):Bi W h G x w':=⟨k.bx.went hb,cell_later hb k.i0,cell_later hb k.i1⟩
theorem Bi.alloc{W}{h}{G}{x}{w}(k:Bi W h G x w)(o):Bi W h G x (w.alloc o):=k.went (boxed _ _)
theorem Bi.below{W}{h}{G}{x}{w}(k:Bi W h G x w):Below W.heap.size W w:=k.bx.below
theorem zGs(h)(G)(w)(k:bI h G w):
  Calls Tryz.prog 131 #[gv h G] w (Gr.Is (.int .i64 (G.rules.length:Int)) w):=by
 have t:=k.r2;clear k;unfold gv;go_enter Tryz.func131,Tryz.ntmps131;go_wp2;go_ret;exact⟨rfl,boxed _ _⟩
theorem zRg{G}{x}:bo G x=(cN G x.1&&decide (0<=x.2)&&decide (x.2<=((ax G x.1).2.length:Int))):=by
 unfold bo cQ;rw[Bool.and_assoc]
 congr 1
 rw[Bool.eq_iff_iff];simp
theorem Hg(h:Sh)(G:ai)(x:au)(w:World)(k:bI h G w):
  Calls Tryz.prog 214 #[gv h G,iv x] w (Gr.Is (.bool (bo G x)) w):=by
 have R:=af (fun w1 (b:Below w.heap.size w w1)=>yH h G x.1 w1 (k.went b));clear k;rw[zRg];obtain⟨xr,xd⟩:=x;generalize ax G (xr,xd).1=r at R⊢;generalize cN G (xr,xd).1=rb at R⊢;have X:=af (Bi.start h G (xr,xd) w 47 181);unfold gv iv;dsimp only at R X⊢;go_enter Tryz.func214,Tryz.ntmps214;go_wp2_with (go_at_call 98;refine(R.out _ X.out.below).mono ?_;rintro e w1 ⟨a,c,rfl,hr,hb⟩;have X:=af ((X.out.went hb).alloc (.cells #[.int .i64 r.1,.slice a r.2.length c] 55));have HR:=af hr;have y0:=X.out.i0;have y1:=X.out.i1;clear hb hr)
 all_goals
  go_ret;exact⟨aU (by first|(simp_all;done)|(simp_all;omega)),X.out.below⟩
def Ae(G:ai)(x:au):Bool:=decide (0<=x.2/\x.2<((ax G x.1).2.length:Int))
def Iw(G:ai)(x:au):Int:=if Ae G x then(ax G x.1).2.getD x.2.toNat 0 else 0
theorem zTq{G}{x}(h:bo G x=true):Ae G x=aZ G x/\Iw G x=aQ G x:=by
 have e:Ae G x=aZ G x:=by
  have:=iD.1 h;rw[Bool.eq_iff_iff,kx];unfold Ae;rw[decide_eq_true_iff];exact⟨fun k=>⟨h,k.2⟩,fun k=>⟨this.2.1,k.2⟩⟩
 exact⟨e,by unfold Iw aQ;rw[e]⟩
theorem zK8(h:Sh)(G:ai)(x:au)(w:World)(k:bI h G w):
  Calls Tryz.prog 216 #[gv h G,iv x] w (Gr.Is (.tuple #[.int .i64 (Iw G x),.bool (Ae G x)]) w):=by
 have R:=af (fun w1 (b:Below w.heap.size w w1)=>yH h G x.1 w1 (k.went b));clear k;unfold Iw Ae;obtain⟨xr,xd⟩:=x;generalize ax G (xr,xd).1=r at R⊢;generalize cN G (xr,xd).1=rb at R⊢;have X:=af (Bi.start h G (xr,xd) w 47 181);unfold gv iv;dsimp only at R X⊢
 by_cases h1:0<=xd/\xd<(r.2.length:Int)
 ·obtain⟨j,rfl⟩:=Int.eq_ofNat_of_zero_le h1.1;have hj:j<r.2.length:=by omega
  have e1:decide (0<=(j:Int)/\(j:Int)<(r.2.length:Int))=true:=decide_eq_true h1;rw[e1,if_pos rfl,show r.2.getD (Int.toNat (j:Int)) 0=r.2[j]by simp[hj]];clear e1;go_enter Tryz.func216,Tryz.ntmps216;go_wp2_with (go_at_call 98;refine(R.out _ X.out.below).mono ?_;rintro e w1 ⟨a,c,rfl,hr,hb⟩;have X:=af ((X.out.went hb).alloc (.cells #[.int .i64 r.1,.slice a r.2.length c] 55));have HR:=af hr;have y0:=X.out.i0;have y1:=X.out.i1;obtain⟨b2,o2,e2,z⟩:=hr j (by simpa[Gr.aN]using hj);subst e2;have z:=gI (o:=.cells #[.int .i64 r.1,.slice (some ⟨b2,o2,none⟩) r.2.length c] 55) z;clear hb hr);go_ret2;exact⟨by simp[Gr.aN,Gr.iv],X.out.below⟩
 ·have e1:decide (0<=xd/\xd<(r.2.length:Int))=false:=decide_eq_false h1;rw[e1]
  by_cases h2:xd<0
  ·clear h1 e1;go_enter Tryz.func216,Tryz.ntmps216;go_wp2_with (go_at_call 98;refine(R.out _ X.out.below).mono ?_;rintro e w1 ⟨a,c,rfl,hr,hb⟩;have X:=af ((X.out.went hb).alloc (.cells #[.int .i64 r.1,.slice a r.2.length c] 55));have y0:=X.out.i0;have y1:=X.out.i1;clear hb hr)
   all_goals
    go_ret2;exact⟨rfl,X.out.below⟩
  ·have h3:(r.2.length:Int)<=xd:=by omega
   have h4:0<=xd:=by omega
   clear h1 e1;go_enter Tryz.func216,Tryz.ntmps216;go_wp2_with (go_at_call 98;refine(R.out _ X.out.below).mono ?_;rintro e w1 ⟨a,c,rfl,hr,hb⟩;have X:=af ((X.out.went hb).alloc (.cells #[.int .i64 r.1,.slice a r.2.length c] 55));have y0:=X.out.i0;have y1:=X.out.i1;clear hb hr)
   all_goals
    go_ret2;exact⟨rfl,X.out.below⟩
theorem ym{w w'}{b}(h:w.mapTurned w' b):Sep.Fr (· =b) w w':=by
 obtain⟨es,c,es',c',h1,rfl⟩:=h;exact⟨rfl,rfl,rfl,by simp[ChangeMaps.setBlock],fun k _ hk=>ChangeMaps.heap_setBlock_other h1 _ hk⟩
theorem wL(x:au)(hx:dY x)(b n:Nat)(Y:au->Prop)(w:World)(hs:MS b n Y w)(hn:n<maxLen):
  Calls Tryz.prog 215 #[.map (some b),iv x] w fun e w'=>∃c:Bool,(c=true↔¬Y x)/\e=.returned (.bool c)/\MS b (n+1) (fun y=>Y y\/y=x) w'/\Sep.Fr (· =b) w w':=by
 have S:=af (fun w1 (k:Below w.heap.size w w1)=>hs.went k);clear hs;have z0:=Zf;unfold iv;go_enter Tryz.func215,Tryz.ntmps215
 go_wp2_with (first
  |(at_lookup;refine Tx rfl fun K' hK'=>zIr _ _ _ rfl vK Tryz.underlying250 (Zf _) b n Y rfl (S.out _ (boxed _ _)) x rfl hx fun c hc=>hK' _ _ ?_)
  | (at_mapUpdate;refine Tx rfl fun K' hK'=>zJr _ _ _ _ rfl vK Tryz.underlying250 (.agg []) b n Y rfl (S.out _ ((boxed _ _).trans ((boxed _ _).mono (by simp)))) hn x rfl hx [] unitElem_mk fun w2 m1 m2=>hK' _ _ ?_;have M1:=af m1;have M2:=af m2;clear m1 m2))
 ·have hct:c=true:=by assumption
  go_ret;refine⟨false,⟨fun e=>Bool.noConfusion e,fun e=>absurd (hc.1 hct) e⟩,rfl,((S.out _ ((boxed _ _).trans ((boxed _ _).mono (by simp)))).mono (Nat.le_succ n)).iff fun y _=>?_,.of_below ((boxed _ _).trans ((boxed _ _).mono (by simp)))⟩;exact⟨.inl,fun e=>e.elim id fun e=>e▸hc.1 hct⟩
 ·go_ret;refine⟨true,⟨fun _ e=>?_,fun _=>rfl⟩,rfl,M1.out,?_⟩
  ·have q:=hc.2 e;simp_all
  ·exact(Sep.Fr.of_below ((boxed _ _).trans ((boxed _ _).mono (by simp)))).trans (ym M2.out) (.refl _ _)
