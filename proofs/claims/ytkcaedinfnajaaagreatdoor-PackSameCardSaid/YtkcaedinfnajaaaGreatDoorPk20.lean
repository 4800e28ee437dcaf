/- A part of the proof. -/
import Derived.Laws.BytesArg
import Derived.Test.YtkcaedinfnajaaaGreatDoorPk19
set_option maxHeartbeats 2000000
set_option maxRecDepth 100000
set_option linter.unusedVariables false
namespace Go.Proofs.YtkcaedinfnajaaaGreatDoor
namespace Au
open Gr (Gram checkN zAE zAY top)
open Im
open It (isIn num zCK zRJ)
def kb(x:Itm):List Int:=[x.1 % 256,x.1 / 256 % 256,x.2 % 256]
def keyL(L:List Itm):List Int:=L.flatMap kb
def keyB(L:List Itm):ByteArray:=strOfNums (keyL L)
def Fit3(L:List Itm):Prop:=∀x∈L,(0<=x.1/\x.1<65536)/\0<=x.2/\x.2<256
theorem zEq(x:Itm):(kb x).length=3:=rfl
theorem zEr(L:List Itm):(keyL L).length=L.length*3:=by
 unfold keyL
 induction L with
 |nil=>rfl
 |cons x L ih=>
  rw[List.flatMap_cons,List.length_append,ih,zEq,List.length_cons];omega
theorem zM2(L:List Itm)(x:Itm):keyL (L++[x])=keyL L++kb x:=by simp[keyL]
theorem zHZ(L:List Itm):∀n∈keyL L,0<=n/\n<256:=fun n hn=>by
 unfold keyL at hn;rw[List.mem_flatMap]at hn;obtain⟨x,_,h⟩:=hn;simp only[kb,List.mem_cons,List.not_mem_nil,or_false]at h;rcases h with rfl|rfl|rfl<;>omega
theorem zUI{x y:Itm}(hx:(0<=x.1/\x.1<65536)/\0<=x.2/\x.2<256)(hy:(0<=y.1/\y.1<65536)/\0<=y.2/\y.2<256)(h:kb x=kb y):x=y:=by
 simp only[kb,List.cons.injEq,and_true]at h;obtain⟨x1,x2⟩:=x;obtain⟨y1,y2⟩:=y;dsimp only at*;exact Prod.ext (by dsimp only;omega) (by dsimp only;omega)
theorem zJg:∀{L M:List Itm},Fit3 L->Fit3 M->keyL L=keyL M->L=M
 |[],[],_,_,_=>rfl
 |[],y::M,_,_,h=>by simp[keyL,kb]at h
 |x::L,[],_,_,h=>by simp[keyL,kb]at h
 |x::L,y::M,hL,hM,h=>by
  have h':kb x++keyL L=kb y++keyL M:=by simpa[keyL]using h
  obtain⟨h1,h2⟩:=List.append_inj h' (by rw[zEq,zEq]);rw[zUI (hL x (List.mem_cons_self ..)) (hM y (List.mem_cons_self ..)) h1,zJg (fun z hz=>hL z (List.mem_cons_of_mem _ hz)) (fun z hz=>hM z (List.mem_cons_of_mem _ hz)) h2]
theorem bytes_inj:∀{a b:List Int},(∀n∈a,0<=n/\n<256)->(∀n∈b,0<=n/\n<256)->(a.map fun n=>UInt8.ofNat n.toNat)=(b.map fun n=>UInt8.ofNat n.toNat)->a=b
 |[],[],_,_,_=>rfl
 |[],y::b,_,_,h=>by simp at h
 |x::a,[],_,_,h=>by simp at h
 |x::a,y::b,ha,hb,h=>by
  simp only[List.map_cons,List.cons.injEq]at h;have h1:=ha x (List.mem_cons_self ..);have h2:=hb y (List.mem_cons_self ..);have h3:=congrArg UInt8.toNat h.1;rw[UInt8.toNat_ofNat',UInt8.toNat_ofNat']at h3;rw[show x=y by omega,bytes_inj (fun n hn=>ha n (List.mem_cons_of_mem _ hn)) (fun n hn=>hb n (List.mem_cons_of_mem _ hn)) h.2]
theorem zJf{L M:List Itm}(hL:Fit3 L)(hM:Fit3 M)(h:keyB L=keyB M):L=M:=by
 unfold keyB at h;have h':(strOfNums (keyL L)).data.toList=(strOfNums (keyL M)).data.toList:=by rw[h]
 rw[strOfNums_data,strOfNums_data]at h';exact zJg hL hM (bytes_inj (zHZ L) (zHZ M) h')
theorem zM1(L:List Itm):(keyB L).size=L.length*3:=by
 unfold keyB;rw[strOfNums_size,zEr]
def zCL(ks:List (List Itm)):List ByteArray:=ks.map keyB
theorem zM3{ks:List (List Itm)}{k:List Itm}(hs:∀x∈ks,Fit3 x)(hk:Fit3 k):isIn (zCL ks) (keyB k)=true↔k∈ks:=by
 rw[zCK];unfold zCL;rw[List.mem_map];constructor
 ·rintro⟨x,hx,e⟩;rw[←zJf (hs x hx) hk e];exact hx
 ·exact fun h=>⟨k,h,rfl⟩
theorem zSg{ks:List (List Itm)}{k:List Itm}(hs:∀x∈ks,Fit3 x)(hk:Fit3 k)(hn:ks.Nodup)(h:k∈ks):num (zCL ks) (keyB k)=ks.idxOf k:=by
 obtain⟨hl,e⟩:=zRJ ((zM3 hs hk).2 h);generalize num (zCL ks) (keyB k)=n at hl e⊢;have hl':n<ks.length:=by simpa[zCL]using hl
 have e':keyB ks[n]=keyB k:=by simpa[zCL]using e
 have:=zJf (hs _ (List.getElem_mem hl')) hk e';rw[←this,hn.idxOf_getElem]
theorem zDb{G:Gram}(hv:checkN G=0){x:Itm}(h:zAJ G x=true):(0<=x.1/\x.1<65536)/\0<=x.2/\x.2<256:=by
 obtain⟨h1,h2,h3,h4⟩:=zDG hv h;exact⟨⟨h1,by omega⟩,h3,by omega⟩
def zOA(G:Gram)(s:Int)(x:Itm):Option Itm:=if behB G x=true/\behV G x=s then some (x.1,x.2+1)else none
def zA9(G:Gram)(c:List Itm)(s:Int):List Itm:=c.filterMap (zOA G s)
theorem zQl{G:Gram}{c:List Itm}(h:Srt c)(s:Int):Is (zA9 G c s) (zLq G c s):=by
 refine⟨?_,fun x=>?_⟩
 ·unfold Srt zA9;rw[List.pairwise_filterMap];refine h.imp fun {a b} hab x hx y hy=>?_
  unfold zOA at hx hy;split at hx
  ·split at hy
   ·injection hx with hx
    injection hy with hy
    subst hx;subst hy;unfold ltP at hab⊢;dsimp only;omega
   ·cases hy
  ·cases hx
 ·unfold zA9;rw[List.mem_filterMap];constructor
  ·rintro⟨y,hy,e⟩;unfold zOA at e;split at e
   ·rename_i q;injection e with e
    exact⟨y,hy,q.1,q.2,e.symm⟩
   ·cases e
  ·rintro⟨y,hy,h1,h2,e⟩;refine⟨y,hy,?_⟩;unfold zOA;rw[if_pos ⟨h1,h2⟩,e]
theorem zKE{G:Gram}{c:List Itm}(h:Srt c)(s:Int):zA9 G c s=stL G c s:=(zQl h s).uniq (zEp G c s)
theorem zGB(G:Gram)(c:List Itm)(x:Itm)(s:Int):zA9 G (c++[x]) s=zA9 G c s++(if behB G x=true/\behV G x=s then[(x.1,x.2+1)]else[]):=by
 unfold zA9;rw[List.filterMap_append]
 congr 1
 unfold zOA
 by_cases h:behB G x=true/\behV G x=s
 ·simp[h]
 ·simp[h]
theorem zOC(G:Gram)(c:List Itm)(s:Int):(zA9 G c s).length<=c.length:=List.length_filterMap_le _ _
theorem zN7{G:Gram}(hv:checkN G=0)(c:List Itm):stL G c 0=[]:=by
 cases e:stL G c 0 with
 |nil=>rfl
 |cons x l=>
  have hx:x∈stL G c 0:=by rw[e];exact List.mem_cons_self ..
  obtain⟨y,_,h1,h2,_⟩:=((zEp G c 0).2 x).1 hx
  exfalso
  obtain⟨h3,h4⟩:=zAo.1 h1;obtain⟨h5,h6⟩:=zAQ.1 h3;obtain⟨y1,y2⟩:=y;dsimp only at*;obtain⟨d,rfl⟩:=Int.eq_ofNat_of_zero_le h6.1
  have hr:zAY G y1=true:=by
   unfold zAY;exact decide_eq_true h5
  have hd:d<(zAE G y1).2.length:=by
   unfold rlen at h4;omega
  have:=(zBx hr hd).2;have:=zBP hv hr hd;omega
def hits(tr:List (Int×Int))(s:Int):Option Int:=(tr.find? fun x=>decide (x.1=s)).map (·.2)
theorem zMi{tr:List (Int×Int)}{s t:Int}(h:∀x∈tr,x.1≠s)(z:Int):hits (tr++[(s,t)]) z=if z=s then some t else hits tr z:=by
 unfold hits;rw[List.find?_append]
 by_cases e:z=s
 ·subst e;rw[if_pos rfl,List.find?_eq_none.2 fun x hx=>by simpa using h x hx];simp
 ·rw[if_neg e];cases tr.find? fun x=>decide (x.1=z)with
  |none=>simp[Ne.symm e]
  |some x=>simp
theorem zFu{G:Gram}{ks:List (List Itm)}{c:List Itm}{n i:Nat}:hits (zBA G ks c n) ((i+1:Nat):Int)=if i<n/\stL G c ((i+1:Nat):Int)≠[]then some (ks.idxOf (stL G c ((i+1:Nat):Int)):Int)else none:=by
 unfold hits;cases hf:(zBA G ks c n).find? fun x=>decide (x.1=((i+1:Nat):Int))with
 |none=>
  rw[if_neg]
  ·rfl
  ·rintro⟨h1,h2⟩;have hm:((((i+1:Nat):Int),(ks.idxOf (stL G c ((i+1:Nat):Int)):Int)):Int×Int)∈zBA G ks c n:=zAw.2 ⟨i,h1,rfl,h2,rfl⟩;have:=List.find?_eq_none.1 hf _ hm;simp at this
 |some x=>
  obtain⟨s,t⟩:=x;have hx:=List.mem_of_find?_eq_some hf;have hd:s=((i+1:Nat):Int):=of_decide_eq_true (List.find?_some (p:=fun x:Int×Int=>decide (x.1=((i+1:Nat):Int))) hf);obtain⟨j,hj,h1,h2,h3⟩:=zAw.1 hx;obtain rfl:j=i:=by omega
  subst hd;rw[if_pos ⟨hj,h2⟩];simp[h3]
theorem zMj{G:Gram}{ks:List (List Itm)}{c:List Itm}{n:Nat}:hits (zBA G ks c n) 0=none:=by
 unfold hits;cases hf:(zBA G ks c n).find? fun x=>decide (x.1=0)with
 |none=>rfl
 |some x=>
  obtain⟨s,t⟩:=x;have hx:=List.mem_of_find?_eq_some hf;have hd:s=0:=of_decide_eq_true (List.find?_some (p:=fun x:Int×Int=>decide (x.1=0)) hf);obtain⟨j,hj,h1,_,_⟩:=zAw.1 hx;omega
def tgt(ts:List (List (Int×Int)))(x:Itm):Option Int:=if 0<=x.1 then hits (ts.getD x.1.toNat []) x.2 else none
theorem zTN(x:Itm):tgt [] x=none:=by
 unfold tgt;split<;>simp[hits]
theorem zQr(ts:List (List (Int×Int)))(x:Itm):tgt (ts++[[]]) x=tgt ts x:=by
 unfold tgt;split
 ·rw[List.getD_eq_getElem?_getD,List.getD_eq_getElem?_getD]
  congr 1
  rcases Nat.lt_trichotomy x.1.toNat ts.length with h|h|h
  ·rw[List.getElem?_append_left h]
  ·rw[List.getElem?_append_right (by omega),h,List.getElem?_eq_none (Nat.le_refl _)];simp
  ·rw[List.getElem?_eq_none (by simp;omega),List.getElem?_eq_none (by omega)]
 ·rfl
theorem zTO{ts:List (List (Int×Int))}{tr:List (Int×Int)}{s t:Int}(h:∀x∈tr,x.1≠s)(x:Itm):tgt (ts++[tr++[(s,t)]]) x=if x=((ts.length:Int),s)then some t else tgt (ts++[tr]) x:=by
 obtain⟨a,b⟩:=x;unfold tgt;dsimp only
 by_cases h0:0<=a
 ·obtain⟨n,rfl⟩:=Int.eq_ofNat_of_zero_le h0;rw[if_pos h0,if_pos h0,List.getD_eq_getElem?_getD,List.getD_eq_getElem?_getD,Int.toNat_natCast];rcases Nat.lt_trichotomy n ts.length with q|q|q
  ·rw[List.getElem?_append_left q,List.getElem?_append_left q,if_neg];intro e;injection e with e1 e2
   omega
  ·subst q;rw[List.getElem?_append_right (Nat.le_refl _),List.getElem?_append_right (Nat.le_refl _)];simp only[Nat.sub_self,List.getElem?_cons_zero,Option.getD_some];rw[zMi h];simp
  ·rw[List.getElem?_eq_none (by simp;omega),List.getElem?_eq_none (by simp;omega),if_neg];intro e;injection e with e1 e2
   omega
 ·rw[if_neg h0,if_neg h0,if_neg];intro e;injection e with e1 e2
  omega
def zCP(ts:List (List (Int×Int)))(i:Int)(n:Nat):List (Int×Int):=(List.range n).filterMap fun(s:Nat)=>(tgt ts (i,(s:Int))).map fun t=>((s:Int),t)
theorem zJx(ts:List (List (Int×Int)))(i:Int)(n:Nat):zCP ts i (n+1)=zCP ts i n++(match tgt ts (i,(n:Int))with|some t=>[((n:Int),t)]|none=>[]):=by
 unfold zCP;rw[List.range_succ,List.filterMap_append]
 congr 1
 cases h:tgt ts (i,(n:Int))with
 |none=>simp[h]
 |some t=>simp[h]
theorem zJw{ts:List (List (Int×Int))}{i:Int}{n:Nat}{t:Int}(h:tgt ts (i,(n:Int))=some t):zCP ts i (n+1)=zCP ts i n++[((n:Int),t)]:=by rw[zJx,h]
theorem zGj{ts:List (List (Int×Int))}{i:Int}{n:Nat}(h:tgt ts (i,(n:Int))=none):zCP ts i (n+1)=zCP ts i n:=by rw[zJx,h,List.append_nil]
theorem zNg(ts:List (List (Int×Int)))(i:Int)(n:Nat):(zCP ts i n).length<=n:=by
 unfold zCP;have:=List.length_filterMap_le (fun(s:Nat)=>(tgt ts (i,(s:Int))).map fun t=>((s:Int),t)) (List.range n)
 rwa [List.length_range]at this
theorem zNf{G:Gram}{q:Whole}(h:WholeOk G (top G) q){i:Nat}(hi:i<q.2.length):zCP q.2 (i:Int) (top G+1)=q.2.getD i []:=by
 have ht:=h.trans i hi
 have key:∀s:Int,tgt q.2 ((i:Int),s)=hits (zBA G q.1 (clL G (zAI q.1 i)) (top G)) s:=fun s=>by
  unfold tgt;dsimp only;rw[if_pos (Int.natCast_nonneg i),Int.toNat_natCast,ht]
 rw[ht];generalize hc:clL G (zAI q.1 i)=c at key;generalize hm:top G=m at key
 have sub:∀n,n<=m->zCP q.2 (i:Int) (n+1)=zBA G q.1 c n:=fun n=>by
  induction n with
  |zero=>
   intro _;rw[zGj (by rw[key];exact zMj)]
   rfl
  |succ n ih=>
   intro hn;rw[zBG,←ih (by omega)]
   by_cases he:stL G c ((n+1:Nat):Int)=[]
   ·rw[if_pos he,List.append_nil,zGj];rw[key,zFu,if_neg fun q=>q.2 he]
   ·rw[if_neg he,zJw];rw[key,zFu,if_pos ⟨by omega,he⟩]
 exact sub m (Nat.le_refl _)
theorem zF3(G:Gram)(c:List Itm)(ks:List (List Itm)):∀n,∀x∈(zCz G c n (ks,[])).2,1<=x.1/\x.1<=(n:Int)
 |0,x,hx=>by cases hx
 |n+1,x,hx=>by
  have ih:=zF3 G c ks n;rw[zCA]at hx;unfold oneS at hx;split at hx
  ·have:=ih x hx;omega
  ·rcases List.mem_append.1 hx with q|q
   ·have:=ih x q;omega
   ·rw[List.mem_singleton]at q;subst q;dsimp only;omega
theorem zHk(G:Gram)(c:List Itm)(ks:List (List Itm)):∀n,(zCz G c n (ks,[])).1.length<=ks.length+n
 |0=>Nat.le_refl _
 |n+1=>by
  have ih:=zHk G c ks n;rw[zCA];unfold oneS;split
  ·omega
  ·dsimp only;split
   ·omega
   ·rw[List.length_append,List.length_singleton];omega
end Au
namespace Au
open Go.RowKit Go.Maps
open Gr (boxed zAC step)
open Im
theorem zAu{w w':World}{row:Option Nat}{m:Nat}(hg:w.grownBy w' row)(hm:m<=w.heap.size)(hr:∀k,row=some k->m<=k):Below m w w':=
 ⟨hg.os,hg.tape,hg.output,hg.size,fun i hi=>hg.block i (by omega) fun e=>by have:=hr i e.symm;omega⟩
theorem zMk(x:Itm):∀u∈ic x,u.oneCell'=true:=fun u hu=>by
 simp only[ic,List.mem_cons,List.not_mem_nil,or_false]at hu;rcases hu with rfl|rfl<;>rfl
theorem zSZ{T:TypeId}{base:Nat}{X:List Itm}{v:Value}{w:World}(h:ItsV T base X v w):∀k,v.ownBlock=some k->base<=k:=fun k hk=>(World.ownsRow.lt h k hk).1
def bvs(xs:List Int):List Value:=xs.map (.int .u8)
theorem zDn(xs ys:List Int):bvs (xs++ys)=bvs xs++bvs ys:=by simp[bvs]
theorem zDR:(Tryz.prog.info? 5).map (fun i=>(i.zero,i.size,i.bytes))=some (some (.int .u8 0),1,1):=by kernel_rfl
def zB3(base:Nat)(xs:List Int)(v:Value)(w:World):Prop:=w.ownsRow base 5 1 v xs.length (bvs xs)
theorem zB3.went{base:Nat}{X:List Int}{v:Value}{w w':World}(h:zB3 base X v w)(hb:Below w.heap.size w w'):zB3 base X v w':=Sep.zAD h fun g hg=>hb.block g (h.lt g hg).2
theorem zB3.nil(base:Nat)(w:World):zB3 base [] (.slice none 0 0) w:=World.ownsRow_nil _ _ _ _
theorem zB3.shape{base:Nat}{X:List Int}{v:Value}{w:World}(h:zB3 base X v w):∃a c,v=.slice a X.length c:=by
 obtain⟨a,c,e⟩:=Sep.zA2 h;exact⟨a,c,e⟩
theorem zB3.text{base:Nat}{X:List Int}{a:Option Addr}{c:Nat}{w:World}(h:zB3 base X (.slice a X.length c) w):
  (convert 131 9 (.slice a X.length c)).run Tryz.prog w=.ok (.string (strOfNums X)) w:=by
 rcases h.2 with⟨e1,h0⟩|⟨g,cap,cur,he,_⟩
 ·have e:X=[]:=List.eq_nil_of_length_eq_zero h0;subst e;simp only[Value.slice.injEq]at e1;obtain⟨rfl,_,rfl⟩:=e1;exact run_convert_bytes_nil w 131 5 Tryz.underlying131 Tryz.underlying5 _ _ 9 Tryz.underlying9
 ·simp only[Value.slice.injEq]at he;obtain⟨rfl,_,_⟩:=he;have hc:=World.ownsRow.cells h (g:=g) rfl;refine run_convert_bytes_arg w 131 5 Tryz.underlying131 Tryz.underlying5 g 0 X.length c X rfl (fun i hi=>?_) 9 Tryz.underlying9;have:=hc i (.int .u8 (X.getD i 0)) (by simp[bvs,hi])
  rwa [WideShapes.add_plain]at this
theorem zON(w:World)(n:Nat)(hn:n=w.heap.size)(x y z:Value)(t:TypeId):∀j u,[x,y,z][j]?=some u->(w.alloc (.cells #[x,y,z] t)).cell? ((⟨n,0,none⟩:Addr).add j)=some u:=by
 intro j u hj;subst hn;rw[WideShapes.add_plain]
 match j,hj with
 |0,hj=>exact zAC rfl (by simpa using hj)
 |1,hj=>exact zAC rfl (by simpa using hj)
 |2,hj=>exact zAC rfl (by simpa using hj)
theorem zB3.more{base:Nat}{L:List Itm}{v:Value}{w:World}{k:Nat}(hk:k<L.length){p q r:Int}(e:[p,q,r]=kb L[k]){n:Nat}(hn:n=(keyL (L.take k)).length+3)(h:w.ownsRow base 5 1 v n (bvs (keyL (L.take k))++[.int .u8 p,.int .u8 q,.int .u8 r])):zB3 base (keyL (L.take (k+1))) v w:=by
 subst hn
 have ht:keyL (L.take (k+1))=keyL (L.take k)++[p,q,r]:=by
  rw[List.take_succ_eq_append_getElem hk,zM2,e]
 unfold zB3;rw[ht,zDn,List.length_append];exact h
theorem zSe(L:List Itm)(a:Option Addr)(c:Nat)(w:World)(kl:ItsA a L w)(hf:Fit3 L)(hL:L.length<=1000000):
  Calls Tryz.prog 103 #[.slice a L.length c] w (Gr.Is (.string (keyB L)) w):=by
 obtain⟨i0,hi,hz0,hz1,hz2⟩:=info_parts zDR;have KL:=zVZ (fun w1 (b:Below w.heap.size w w1)=>kl.went b);have HF:=zVZ hf;have B0:=zVZ (zB3.nil w.heap.size w);clear kl hf;go_enter Tryz.func103,Tryz.ntmps103;go_wp2;go_loopw [3,8] (fun v i wr=>∃j:Nat,j<=L.length/\i=.int .i64 j/\zB3 w.heap.size (keyL (L.take j)) v wr/\Below w.heap.size w wr) (fun _ i _=>L.length-(intOf i).toNat)
 case atStart=>exact⟨0,Nat.zero_le _,rfl,B0.out,.refl _ _⟩
 case round=>
  obtain⟨j,hj,rfl,hB,hW⟩:=hrel;obtain⟨av,cv,rfl⟩:=hB.shape;clear B0
  by_cases hlt:j<L.length
  ·obtain⟨b,o,rfl,c0,c1⟩:=(KL.out wr hW).at j hlt;have hx:=HF.out _ (List.getElem_mem hlt);have HM:=zVZ (fun(v:Value) (w':World) (n:Nat) (p q r:Int) e hn h=>zB3.more (base:=w.heap.size) (v:=v) (w:=w') hlt (p:=p) (q:=q) (r:=r) (n:=n) e hn h)
   have hl:(keyL (L.take j)).length<=3000000:=by
    rw[zEr,List.length_take];omega
   have B:=zVZ hB;have W:=zVZ hW;clear hB hW;have e1:((L[j].1,L[j].2):Itm)=L[j]:=rfl;generalize L[j]=x at*;obtain⟨x0,x1⟩:=x;dsimp only at c0 c1 hx;clear e1;generalize keyL (L.take j)=X at B HM hl
   have hk:[x0 % 256,x0 / 256,x1]=kb (x0,x1):=by
    unfold kb;dsimp only;rw[show x0 / 256 % 256=x0 / 256 by omega,show x1 % 256=x1 by omega]
   have hs0:(wr.alloc (.cells #[.int .i64 x0,.int .i64 x1] 154)).heap.size=wr.heap.size+1:=by simp
   have HB2:=zVZ (Gr.step W.out (Gr.step (boxed wr (.cells #[.int .i64 x0,.int .i64 x1] 154)) (boxed _ (.cells #[.int .u8 (x0 % 256),.int .u8 (x0 / 256),.int .u8 x1] 5))));have RB:=zVZ (B.out.went (Gr.step (boxed wr (.cells #[.int .i64 x0,.int .i64 x1] 154)) (boxed _ (.cells #[.int .u8 (x0 % 256),.int .u8 (x0 / 256),.int .u8 x1] 5))));have NW:=zVZ (zON (wr.alloc (.cells #[.int .i64 x0,.int .i64 x1] 154)) (wr.heap.size+1) hs0.symm (.int .u8 (x0 % 256)) (.int .u8 (x0 / 256)) (.int .u8 x1) 5);have hsz:=HB2.out.size;have hbl:∀g,(Value.slice av X.length cv).ownBlock=some g->w.heap.size<=g:=fun g hg=>(World.ownsRow.lt B.out g hg).1
   have HBL:=zVZ hbl;clear hbl B W;go_wp2_with (at_builtin;refine wpList_append_own_at _ rfl _ _ 131 rfl w.heap.size 5 i0 (.int .u8 0) 1 1 Tryz.underlying131 hi hz0 hz1 hz2 rfl (by decide) _ _ _ rfl RB.out ⟨wr.heap.size+1,0,none⟩ 3 3 [.int .u8 (x0 % 256),.int .u8 (x0 / 256),.int .u8 x1] rfl rfl NW.out (by simp[Value.oneCell']) (by unfold maxLen;omega) (by omega) hsz ?_;intro v' w' hown hg _ _;have HO:=zVZ hown;have HG:=zVZ (HB2.out.trans (zAu hg hsz HBL.out));clear hown hg);go_roundw
   case rel=>exact⟨j+1,by omega,by go_num,HM.out _ _ _ _ _ _ hk rfl HO.out,HG.out⟩
   case measure=>simp[intOf];omega
  ·have hE:j=L.length:=by omega
   subst hE;rw[List.take_length]at hB;rw[List.take_length];have T:=hB.text;have HK:=zVZ (show strOfNums (keyL L)=keyB L from rfl);generalize keyL L=X at*;generalize strOfNums X=s at*;go_wp2;have e:=HK.out;subst e;go_ret;exact⟨rfl,hW⟩
end Au
namespace Au
open Gr (Gram checkN zAj zBu top)
open Im
theorem zCh{G:Gram}(hv:checkN G=0):top G<=240:=by
 have h:=(zAj hv).1;unfold zBu at h;simp only[Bool.or_eq_false_iff,decide_eq_false_iff_not]at h;unfold top;omega
structure Ent (G:Gram) (X:List Sta):Prop where
 hv:checkN G=0
 small:Small X
 len:X.length<=2000
 right:∀s∈X,Srt s.1/\∀x∈s.1,zAJ G x=true
 «to»:∀k (h:k<X.length) j (h':j<X[k].2.length),∃n:Nat,X[k].2[j].2=(n:Int)/\∃hn:n<X.length,∀x∈X[n].1,zIV G X[k].2[j].1 x
 early:∀t,0<t->t<X.length->∃k,∃h:k<X.length,∃j,∃h':j<X[k].2.length,k<t/\X[k].2[j].2=(t:Int)
 some:∀t (h:t<X.length),X[t].1≠[]
 spells:∀i (hi:i<X.length) (r:Int),Gr.zAY G r=true->(Gr.zAE G r).2.length≠0->Clo G X[i].1 (r,0)->∃j:Nat,∃hj:j<X.length,zFj X (i:Int) (Gr.zAE G r).2=(j:Int)/\(r,((Gr.zAE G r).2.length:Int))∈X[j].1
theorem zT1{G:Gram}{X:List Sta}(h:Built G 0 X):Ent G X:=by
 generalize he:(0:Int)=e at h;cases h with
 |bad hb=>exact absurd he.symm hb
 |many _ _ _=>cases he
 |all hv hs hf=>
  rename_i n;have D:=hs.done hf;generalize runs G (top G) n=q at*;have hl:=zAp D.all
  have at1:∀i (h:i<(states q).length),(states q)[i]=(zAI q.1 i,q.2.getD i []):=fun i h=>by
   have:=zCE D.all (i:=i) (by omega);rw[List.getElem?_eq_getElem h,Option.some.injEq]at this;exact this
  have good:∀s∈states q,s.1∈q.1:=fun s hs=>by
   obtain⟨i,hi,rfl⟩:=List.mem_iff_getElem.1 hs;rw[at1 i hi];exact zA3 (by omega)
  have hr:∀s∈states q,Srt s.1/\∀x∈s.1,zAJ G x=true:=fun s hs=>(D.ok.good _ (good s hs)).2
  refine⟨hv,⟨by omega,fun s hs=>?_,fun s hs=>?_⟩,by omega,hr,fun k h j h'=>?_,fun t h0 ht=>?_,fun t ht=>?_,fun i hi r hr h0 hx=>?_⟩
  ·have:=Nat.le_trans (zGr (hr s hs).1 (hr s hs).2) (zA5 hv);omega
  ·obtain⟨i,hi,rfl⟩:=List.mem_iff_getElem.1 hs;rw[at1 i hi];have hi2:i<q.2.length:=by rw[D.all];omega
   rw[←zNf D.ok hi2];have:=zNg q.2 (i:Int) (top G+1);have:=zCh hv;dsimp only;omega
  ·have hk:k<q.1.length:=by omega
   have e2:(states q)[k].2=q.2.getD k []:=by rw[at1 k h]
   have hm:(states q)[k].2[j]∈q.2.getD k []:=by
    rw[←e2];exact List.getElem_mem h'
   obtain⟨n,h1,h2,h3⟩:=D.enters hk (s:=(states q)[k].2[j].1) (t:=(states q)[k].2[j].2) hm;refine⟨n,h1,by omega,?_⟩;rw[at1 n (by omega)];exact h3
  ·obtain⟨k,s,h1,h2⟩:=D.early h0 (by omega);have hk:k<(states q).length:=by omega
   have e2:(states q)[k].2=q.2.getD k []:=by rw[at1 k hk]
   rw[←e2]at h2;obtain⟨j,hj,e⟩:=List.mem_iff_getElem.1 h2;exact⟨k,hk,j,hj,h1,by rw[e]⟩
  ·rw[at1 t ht];exact D.some (by omega)
  ·rw[at1 i hi]at hx;obtain⟨j,h1,h2,h3⟩:=D.spells hv (i:=i) (by omega) hr h0 (((zFb _ _).2 _).2 hx);refine⟨j,by omega,?_,by rw[at1 j (by omega)];exact h3⟩;rw[←hl,zOU (fun i h=>by rw[at1 i h])]at h2;exact h2
end Au
namespace Au
open Gr (Gram checkN zEa zDM plnS top ofN)
open Im
def cloS(G:Gram)(out:List Itm):List Itm:=out.foldl (fun o y=>if behB G y then adds o (ofN G (behV G y))else o) out
theorem zJo{G:Gram}{L:List Itm}:∀(l out:List Itm),Mid G L out->(∀y∈l,Clo G L y)->Mid G L (l.foldl (fun o y=>if behB G y then adds o (ofN G (behV G y))else o) out)
 |[],out,h,_=>h
 |y::l,out,h,k=>by
  rw[List.foldl_cons];refine zJo l _ ?_ fun z hz=>k z (List.mem_cons_of_mem _ hz)
  split
  ·rename_i hb;exact h.adds (k y (List.mem_cons_self ..)) hb
  ·exact h
theorem zNL{G:Gram}{L out:List Itm}(h:Mid G L out):Mid G L (cloS G out):=zJo out out h fun y hy=>h.sub y hy
def cloN(G:Gram):Nat->List Itm->List Itm
 |0,out=>out
 |n+1,out=>cloN G n (cloS G out)
theorem zF0{G:Gram}{L:List Itm}:∀(n:Nat) (out:List Itm),Mid G L out->Mid G L (cloN G n out)
 |0,_,h=>h
 |n+1,_,h=>zF0 n _ (zNL h)
def zUa(G:Gram)(out:List Itm):Bool:=out.all fun y=> !behB G y||(ofN G (behV G y)).all fun r=>decide (((r:Int),(0:Int))∈out)
theorem zTI{G:Gram}{out:List Itm}(h:zUa G out=true):Im.Shut G out:=fun y hy hb r hr=>by
 have h1:=List.all_eq_true.1 h y hy;rw[hb,Bool.not_true,Bool.false_or]at h1;exact of_decide_eq_true (List.all_eq_true.1 h1 r hr)
def srtB(l:List Itm):Bool:=decide (l.Pairwise ltP)
theorem zKD{l:List Itm}(h:srtB l=true):Srt l:=of_decide_eq_true (p:=l.Pairwise ltP) h
theorem zC0{G:Gram}{L:List Itm}(n:Nat)(h1:srtB L=true)(h2:(L.all fun x=>zAJ G x)=true)(h3:zUa G (cloN G n L)=true):Is (cloN G n L) (Clo G L):=
 (zF0 n L (.start ⟨zKD h1,fun x=>⟨fun h=>⟨h,List.all_eq_true.1 h2 x h⟩,fun h=>h.1⟩⟩)).done (zTI h3)
def zSu(G:Gram)(c:List Itm)(s:Nat)(p:Half):Half:=
 if zA9 G c s=[]then p else(if zA9 G c s∈p.1 then p.1 else p.1++[zA9 G c s],p.2++[((s:Int),((p.1++[zA9 G c s]).idxOf (zA9 G c s):Int))])
def zF2(G:Gram)(c:List Itm):Nat->Half->Half
 |0,p=>p
 |n+1,p=>zSu G c (n+1) (zF2 G c n p)
theorem zNb{G:Gram}{c:List Itm}(h:Srt c)(p:Half):∀n,zCz G c n p=zF2 G c n p
 |0=>rfl
 |n+1=>by
  rw[zCA,zNb h p n];show oneS G c (n+1) (zF2 G c n p)=zSu G c (n+1) (zF2 G c n p);unfold oneS zSu;rw[zKE h]
theorem zNu{G:Gram}{t:Nat}{q:Whole}{C:List Itm}(hq:q.2.length<q.1.length)(hC:Is C (Clo G q.1[q.2.length])):rnd G t q=((zF2 G C t (q.1,[])).1,q.2++[(zF2 G C t (q.1,[])).2]):=by
 rw[zJ7 hq,(zFb G q.1[q.2.length]).uniq hC,zNb hC.1]
def GB:Gram:={terms:=[⟨#[65]⟩,⟨#[66]⟩],nons:=[⟨#[115]⟩],rules:=[(3,[1,3]),(3,[2])],start:=3}
theorem zCn:checkN GB=0:=by
 refine zEa (by decide+kernel) ?_ (by decide+kernel) (by decide+kernel) (by decide+kernel) (by decide+kernel);have h1:plnS ⟨#[65]⟩=true:=by decide+kernel
 have h2:plnS ⟨#[66]⟩=true:=by decide+kernel
 have h3:plnS ⟨#[115]⟩=true:=by decide+kernel
 simp[zDM,GB,h1,h2,h3]
abbrev k0:List Itm:=[(2,0)]
abbrev k1:List Itm:=[(0,1)]
abbrev k2:List Itm:=[(1,1)]
abbrev k3:List Itm:=[(2,1)]
abbrev k4:List Itm:=[(0,2)]
abbrev t0:List (Int×Int):=[(1,1),(2,2),(3,3)]
abbrev t1:List (Int×Int):=[(1,1),(2,2),(3,4)]
theorem rb0:runs GB (top GB) 0=([k0],[]):=rfl
theorem rb1:runs GB (top GB) 1=([k0,k1,k2,k3],[t0]):=by
 show rnd GB (top GB) (runs GB (top GB) 0)= _;rw[rb0,zNu (by decide) (zC0 (L:=k0) 4 (by decide+kernel) (by decide+kernel) (by decide+kernel))]
 decide+kernel
theorem rb2:runs GB (top GB) 2=([k0,k1,k2,k3,k4],[t0,t1]):=by
 show rnd GB (top GB) (runs GB (top GB) 1)= _;rw[rb1,zNu (by decide) (zC0 (L:=k1) 4 (by decide+kernel) (by decide+kernel) (by decide+kernel))]
 decide+kernel
theorem rb3:runs GB (top GB) 3=([k0,k1,k2,k3,k4],[t0,t1,[]]):=by
 show rnd GB (top GB) (runs GB (top GB) 2)= _;rw[rb2,zNu (by decide) (zC0 (L:=k2) 4 (by decide+kernel) (by decide+kernel) (by decide+kernel))]
 decide+kernel
theorem rb4:runs GB (top GB) 4=([k0,k1,k2,k3,k4],[t0,t1,[],[]]):=by
 show rnd GB (top GB) (runs GB (top GB) 3)= _;rw[rb3,zNu (by decide) (zC0 (L:=k3) 4 (by decide+kernel) (by decide+kernel) (by decide+kernel))]
 decide+kernel
theorem rb5:runs GB (top GB) 5=([k0,k1,k2,k3,k4],[t0,t1,[],[],[]]):=by
 show rnd GB (top GB) (runs GB (top GB) 4)= _;rw[rb4,zNu (by decide) (zC0 (L:=k4) 4 (by decide+kernel) (by decide+kernel) (by decide+kernel))]
 decide+kernel
def XB:List (List Itm×List (Int×Int)):=[(k0,t0),(k1,t1),(k2,[]),(k3,[]),(k4,[])]
theorem zL6:Built GB 0 XB:=by
 have h:=Built.all (G:=GB) (n:=5) zCn ⟨.inr (by rw[rb5];rfl),fun m hm=>by
  have:m=0\/m=1\/m=2\/m=3\/m=4:=by omega
  unfold Stop;rcases this with rfl|rfl|rfl|rfl|rfl
  ·rw[rb0];decide
  ·rw[rb1];decide
  ·rw[rb2];decide
  ·rw[rb3];decide
  ·rw[rb4];decide⟩ (by rw[rb5];decide)
 rw[rb5]at h;exact h
