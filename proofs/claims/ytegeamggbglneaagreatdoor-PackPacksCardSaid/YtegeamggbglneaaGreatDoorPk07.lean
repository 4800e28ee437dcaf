/- A part of the proof. -/
import Derived.Test.YtegeamggbglneaaGreatDoorPk04
import Derived.Test.YtegeamggbglneaaGreatDoorPk03
set_option linter.unusedVariables false
set_option linter.unusedSimpArgs false
namespace Go.Proofs.YtegeamggbglneaaGreatDoor
namespace Rw
open Go.RowKit Go.Maps
theorem zFj{P}(w)(t ty)(base)(e)(i)(z)(size bytes)(ht:P.underlying t=some (.slice e))(hi:P.info? e=some i)(hz:i.zero=some z)
  (hsize:i.size=size) (hby:i.bytes=bytes) (hzs:z.cells.size=size) (hpos:0<size) (v) (n) (xs) (hown:w.ownsRow base e size v n xs)
  (base2) (v2) (m) (ys) (hown2:w.ownsRow base2 e size v2 m ys) (h1:∀u∈ys,u.oneCell'=true)
  (h63:n+m<=maxLen) (hbytes:(n+m)*bytes<=140737488355328) (hbase:base<=w.heap.size):
  ∃v' w',(Builtin.append_ #[t,t] ty #[v,v2]).run P w=.ok v' w'/\w'.ownsRow base e size v' (n+m) (xs++ys)/\w.grownBy w' v.ownBlock/\(v'.ownBlock=v.ownBlock\/v'.ownBlock=some w.heap.size):=by
 have hlen:=hown2.1;rcases hown2.2 with⟨rfl,rfl⟩|⟨g2,cap2,cur2,rfl,hbg2,hg2,hnc2,hcm2,hcs2,htake2⟩
 ·have h0:ys=[]:=List.eq_nil_of_length_eq_zero (by simpa using hlen);subst h0;refine⟨v,w,?_,by simpa using hown,⟨rfl,rfl,rfl,Nat.le_refl _,fun _ _ _=>rfl⟩,.inl rfl⟩;rcases hown.2 with⟨rfl,rfl⟩|⟨g,cap,cur,rfl,hbg,hg,hnc,hcm,hcs,htake⟩
  ·simp[Builtin.append_,run_underlying ht,sizeOf,typeInfo,hi,Builtin.lenOf,Builtin.firstCells]
  ·simp[Builtin.append_,run_underlying ht,sizeOf,typeInfo,hi,Builtin.lenOf,Builtin.firstCells,loadCells,storeCells,hnc]
 ·obtain⟨v',w',h2,h3,h4,_,h5⟩:=run_append_own_at (P:=P) w base t ty e i z size bytes ht hi hz hsize hby hzs hpos v n xs hown ⟨g2,0,none⟩ m cap2 ys hlen (hown2.cells rfl) h1 h63 hbytes hbase;exact⟨v',w',h2,h3,h4,h5⟩
theorem zDP{P}(w){o:Oper}{a}{K}{Q}(s x)(t)
  (ho:o.op=.call {callee:=.builtin .append,args:=#[s,x],argTypes:=#[t,t]})
  (base) (e) (i) (z) (size bytes) (ht:P.underlying t=some (.slice e)) (hi:P.info? e=some i) (hz:i.zero=some z)
  (hsize:i.size=size) (hby:i.bytes=bytes) (hzs:z.cells.size=size) (hpos:0<size) (v) (n) (xs) (hs:a.eval s=v) (hown:w.ownsRow base e size v n xs)
  (base2) (v2) (m) (ys) (hx:a.eval x=v2) (hown2:w.ownsRow base2 e size v2 m ys) (h1:∀u∈ys,u.oneCell'=true)
  (h63:n+m<=maxLen) (hbytes:(n+m)*bytes<=140737488355328) (hbase:base<=w.heap.size)
  (h:∀v' w',w'.ownsRow base e size v' (n+m) (xs++ys)->w.grownBy w' v.ownBlock->(v'.ownBlock=v.ownBlock\/v'.ownBlock=some w.heap.size)->K (a.put o.dst v') w'):o.wp P a w K Q:=by
 obtain⟨v',w',hr,h2,h3,h4⟩:=zFj (P:=P) w t o.type base e i z size bytes ht hi hz hsize hby hzs hpos v n xs hown base2 v2 m ys hown2 h1 h63 hbytes hbase;unfold Oper.wp execOp;simp only[ho,resolve,invoke,builtin,Sem.run_bind,Sem.run_pure,Result.andThen_ok,List.map_toArray,List.map_cons,List.map_nil,hs,hx,hr];exact h v' w' h2 h3 h4
theorem zAN{P}(w){ops}{rest}{o}{a}{Q}(hgd:o.guard=none)(s x)(t)
  (ho:o.op=.call {callee:=.builtin .append,args:=#[s,x],argTypes:=#[t,t]})
  (base) (e) (i) (z) (size bytes) (ht:P.underlying t=some (.slice e)) (hi:P.info? e=some i) (hz:i.zero=some z)
  (hsize:i.size=size) (hby:i.bytes=bytes) (hzs:z.cells.size=size) (hpos:0<size) (v) (n) (xs) (hs:a.eval s=v) (hown:w.ownsRow base e size v n xs)
  (base2) (v2) (m) (ys) (hx:a.eval x=v2) (hown2:w.ownsRow base2 e size v2 m ys) (h1:∀u∈ys,u.oneCell'=true)
  (h63:n+m<=maxLen) (hbytes:(n+m)*bytes<=140737488355328) (hbase:base<=w.heap.size)
  (h:∀v' w',w'.ownsRow base e size v' (n+m) (xs++ys)->w.grownBy w' v.ownBlock->(v'.ownBlock=v.ownBlock\/v'.ownBlock=some w.heap.size)->wpList P ops Q rest (a.put o.dst v') w'):wpList P ops Q (o::rest) a w:=
 wpList_plain hgd fun _ hK=>zDP w s x t ho base e i z size bytes ht hi hz hsize hby hzs hpos v n xs hs hown base2 v2 m ys hx hown2 h1 h63 hbytes hbase fun v' w' h2 h3 h4=>hK _ _ (h v' w' h2 h3 h4)
theorem zAH{P}(w){ops}{o}{a}{K}{Q}{E}(hgd:o.guard=none)(s x)(t)
  (ho:o.op=.call {callee:=.builtin .append,args:=#[s,x],argTypes:=#[t,t]})
  (base) (e) (i) (z) (size bytes) (ht:P.underlying t=some (.slice e)) (hi:P.info? e=some i) (hz:i.zero=some z)
  (hsize:i.size=size) (hby:i.bytes=bytes) (hzs:z.cells.size=size) (hpos:0<size) (v) (n) (xs) (hs:a.eval s=v) (hown:w.ownsRow base e size v n xs)
  (base2) (v2) (m) (ys) (hx:a.eval x=v2) (hown2:w.ownsRow base2 e size v2 m ys) (h1:∀u∈ys,u.oneCell'=true)
  (h63:n+m<=maxLen) (hbytes:(n+m)*bytes<=140737488355328) (hbase:base<=w.heap.size)
  (h:∀v' w',w'.ownsRow base e size v' (n+m) (xs++ys)->w.grownBy w' v.ownBlock->(v'.ownBlock=v.ownBlock\/v'.ownBlock=some w.heap.size)->K (a.put o.dst v') w'):
  if Region.wanted o (yielded ops a.tmps)=true then Oper.wp P o a w K Q else E:=by
 have hw:Region.wanted o (yielded ops a.tmps)=true:=by simp[Region.wanted,hgd]
 rw[if_pos hw];exact zDP w s x t ho base e i z size bytes ht hi hz hsize hby hzs hpos v n xs hs hown base2 v2 m ys hx hown2 h1 h63 hbytes hbase h
theorem zAG{w:World}{base size n}{e}{v}{xs}(h:w.ownsRow base e size v n xs):∃a cap,v=.slice a n cap:=by
 rcases h.2 with⟨rfl,rfl⟩|⟨g,cap,cur,rfl,_⟩
 ·exact⟨_,_,rfl⟩
 ·exact⟨_,_,rfl⟩
theorem zBd{w:World}{b b' size n}{e}{v}{xs}(h:w.ownsRow b e size v n xs)(hb:b'<=b):w.ownsRow b' e size v n xs:=by
 obtain⟨h1,h2⟩:=h;refine⟨h1,h2.imp id ?_⟩;rintro⟨g,cap,cur,h3,h4,h5⟩;exact⟨g,cap,cur,h3,Nat.le_trans hb h4,h5⟩
def Bk(q:Nat)(cs:Array Value)(T:TypeId)(w:World):Prop:=w.heap[q]?=some (.cells cs T)
theorem Bk.new(w:World)(cs)(T)(n)(hn:n=w.heap.size):Bk n cs T (w.alloc (.cells cs T)):=by
 subst hn;exact heap_alloc_new w _
theorem Bk.lt{q}{cs}{T}{w}(h:Bk q cs T w):q<w.heap.size:=by
 rcases Nat.lt_or_ge q w.heap.size with h1|h1
 ·exact h1
 ·unfold Bk at h;rw[Array.getElem?_eq_none h1]at h;cases h
theorem Bk.fr{q}{cs}{T}{S}{w w'}(h:Bk q cs T w)(k:Sep.Fr S w w')(hq:¬S q):Bk q cs T w':=(k.block q h.lt hq).trans h
theorem Bk.went{q}{cs}{T}{w w'}(h:Bk q cs T w)(k:Below w.heap.size w w'):Bk q cs T w':=(k.block q h.lt).trans h
theorem Bk.cell{q}{cs}{T}{w}(h:Bk q cs T w){j}{v}(hv:cs[j]?=some v):w.cell? ⟨q,j,none⟩=some v:=by
 unfold Bk at h;simp[World.cell?,h,hv]
theorem Bk.free{q}{cs}{T}{w}(h:Bk q cs T w)(j):w.frozen? ⟨q,j,none⟩=false:=by
 unfold Bk at h;simp[World.frozen?,h]
theorem zD1(w:World)(a)(v):(w.setCell a v).heap.size=w.heap.size:=by simp[World.setCell]
theorem Bk.set{q j}{cs}{T}{w}(h:Bk q cs T w)(hj:j<cs.size)(v):Bk q (cs.setIfInBounds j v) T (w.setCell ⟨q,j,none⟩ v):=by
 unfold Bk at h⊢;obtain⟨hl,h⟩:=Array.getElem?_eq_some_iff.1 h;rw[Array.getElem?_eq_some_iff];refine⟨by rw[zD1];exact hl,?_⟩;simp[World.setCell,Array.getElem_modify,h]
theorem Bk.two{q}{a b}{T}{w}(h:Bk q #[a,b] T w):w.cell? ⟨q,0,none⟩=some a/\w.cell? ⟨q,1,none⟩=some b/\(∀j,w.frozen? ⟨q,j,none⟩=false):=⟨h.cell rfl,h.cell rfl,h.free⟩
theorem zED{S}{w w1 w2}(h:Sep.Fr S w w1)(k:Below w1.heap.size w1 w2):Sep.Fr S w w2:=h.trans (Sep.Fr.of_below (S:=S) k) fun _ hk=> .inl hk
theorem zBT{α:Type}(f:α->List Value)(hf:∀x,(f x).length=2)(L:List α)(j)(hj)(i)(hi:i<2):(L.flatMap f)[j*2+i]?=(f L[j])[i]?:=by
 induction L generalizing j with
 |nil=>simp at hj
 |cons t T ih=>
  rw[List.flatMap_cons];cases j with
  |zero=>rw[List.getElem?_append_left (by rw[hf];omega)];simp
  |succ j=>
   rw[List.getElem?_append_right (by rw[hf];omega),hf,show(j+1)*2+i-2=j*2+i by omega,ih j (by simpa using hj)];simp
end Rw
namespace Rw
open Go.RowKit Go.Maps
theorem zGA{P}(w)(t ty)(base)(e)(i)(z)(size bytes)(ht:P.underlying t=some (.slice e))(hi:P.info? e=some i)(hz:i.zero=some z)
  (hsize:i.size=size) (hby:i.bytes=bytes) (hzs:z.cells.size=size) (hpos:0<size) (v) (n) (xs) (hown:w.ownsRow base e size v n xs)
  (a) (m c) (news) (hl:news.length=m*size) (hr:∀ad,a=some ad->∀j u,news[j]?=some u->w.cell? (ad.add j)=some u) (hn:a=none->m=0) (h1:∀u∈news,u.oneCell'=true)
  (h63:n+m<=maxLen) (hbytes:(n+m)*bytes<=140737488355328) (hbase:base<=w.heap.size):
  ∃v' w',(Builtin.append_ #[t,t] ty #[v,.slice a m c]).run P w=.ok v' w'/\w'.ownsRow base e size v' (n+m) (xs++news)/\w.grownBy w' v.ownBlock/\(v'.ownBlock=v.ownBlock\/v'.ownBlock=some w.heap.size):=by
 cases a with
 |some ad=>
  obtain⟨v',w',h2,h3,h4,_,h5⟩:=run_append_own_at (P:=P) w base t ty e i z size bytes ht hi hz hsize hby hzs hpos v n xs hown ad m c news hl (hr ad rfl) h1 h63 hbytes hbase;exact⟨v',w',h2,h3,h4,h5⟩
 |none=>
  obtain rfl:=hn rfl;have h0:news=[]:=List.eq_nil_of_length_eq_zero (by simpa using hl);subst h0;refine⟨v,w,?_,by simpa using hown,⟨rfl,rfl,rfl,Nat.le_refl _,fun _ _ _=>rfl⟩,.inl rfl⟩;rcases hown.2 with⟨rfl,rfl⟩|⟨g,cap,cur,rfl,hbg,hg,hnc,hcm,hcs,htake⟩
  ·simp[Builtin.append_,run_underlying ht,sizeOf,typeInfo,hi,Builtin.lenOf,Builtin.firstCells]
  ·simp[Builtin.append_,run_underlying ht,sizeOf,typeInfo,hi,Builtin.lenOf,Builtin.firstCells,loadCells,storeCells,hnc]
theorem zHS{P}(w){o:Oper}{a}{K}{Q}(s x)(t)
  (ho:o.op=.call {callee:=.builtin .append,args:=#[s,x],argTypes:=#[t,t]})
  (base) (e) (i) (z) (size bytes) (ht:P.underlying t=some (.slice e)) (hi:P.info? e=some i) (hz:i.zero=some z)
  (hsize:i.size=size) (hby:i.bytes=bytes) (hzs:z.cells.size=size) (hpos:0<size) (v) (n) (xs) (hs:a.eval s=v) (hown:w.ownsRow base e size v n xs)
  (ad) (m c) (news) (hx:a.eval x=.slice ad m c) (hl:news.length=m*size) (hr:∀p,ad=some p->∀j u,news[j]?=some u->w.cell? (p.add j)=some u) (hn:ad=none->m=0) (h1:∀u∈news,u.oneCell'=true)
  (h63:n+m<=maxLen) (hbytes:(n+m)*bytes<=140737488355328) (hbase:base<=w.heap.size)
  (h:∀v' w',w'.ownsRow base e size v' (n+m) (xs++news)->w.grownBy w' v.ownBlock->(v'.ownBlock=v.ownBlock\/v'.ownBlock=some w.heap.size)->K (a.put o.dst v') w'):o.wp P a w K Q:=by
 obtain⟨v',w',hr,h2,h3,h4⟩:=zGA (P:=P) w t o.type base e i z size bytes ht hi hz hsize hby hzs hpos v n xs hown ad m c news hl hr hn h1 h63 hbytes hbase;unfold Oper.wp execOp;simp only[ho,resolve,invoke,builtin,Sem.run_bind,Sem.run_pure,Result.andThen_ok,List.map_toArray,List.map_cons,List.map_nil,hs,hx,hr];exact h v' w' h2 h3 h4
theorem zQ6{w:World}{base q size}{e}(hq:w.heap[q]?=some (.cells #[] e (0,0)))(hb:base<=q):w.ownsRow base e size (.slice (some ⟨q,0,none⟩) 0 0) 0 []:=
 ⟨by simp,.inr ⟨q,0,#[],rfl,hb,hq,Nat.le_refl _,by unfold maxLen;omega,by simp,by simp⟩⟩
end Rw
namespace Pk
open Go.RowKit Go.Maps Go.WideShapes
def Ty(b:Nat)(T:TypeId)(w:World):Prop:=∃cur fz,w.heap[b]?=some (.cells cur T fz)
theorem Ty.went{b}{T}{w w'}(h:Ty b T w)(hb:Below w.heap.size w w'):Ty b T w':=by
 obtain⟨cur,fz,h⟩:=h;exact⟨cur,fz,(hb.block b (Array.getElem?_eq_some_iff.1 h).1).trans h⟩
theorem Ty.kept{b g}{T U}{w w'}(h:Ty b T w)(hg:Ty g U w)(hne:T≠U)(h2:w.grownBy w' (some g)):w'.heap[b]?=w.heap[b]?:=by
 obtain⟨cur,fz,h⟩:=h;obtain⟨cur2,fz2,hg⟩:=hg;refine h2.block b (Array.getElem?_eq_some_iff.1 h).1 fun e=>?_
 injection e with e
 subst e;rw[h]at hg;injection hg with hg
 injection hg with _ hg _
 exact hne hg
theorem Ty.kept'{b g}{T U}{w w'}(h:Ty b T w)(hg:Ty g U w)(hne:T≠U)(h2:w.grownBy w' (some g)):Ty b T w':=by
 have e:=h.kept hg hne h2;obtain⟨cur,fz,h⟩:=h;exact⟨cur,fz,e.trans h⟩
theorem zDy{w}{base size n}{e}{v}{xs}(h:w.ownsRow base e size v n xs){g}(hg:v.ownBlock=some g):Ty g e w:=by
 rcases h.2 with⟨h0,_⟩|⟨g',cap,cur,h0,_,h1,_⟩
 ·rw[h0]at hg;cases hg
 ·rw[h0]at hg;injection hg with hg
  dsimp only at hg;subst hg;exact⟨cur,_,h1⟩
end Pk
namespace Au
open Go.RowKit Go.Maps
open Im
open It (zME isIn num zH8 zH9)
structure Ka (P:Program) (K:TypeId):Prop where
 law:Keyed P K
 key:∀x,W64 x->keyOf P K (iv x)=some (ik x)
theorem zVj{P}{K E}(law:Keyed P K)(hu:P.underlying K=some (.array 2 E))(he:P.underlying E=some (.int .i64))(hkt:P.keyType K=true)(hcells:P.cellsOf K=2)(ce:P.cellsOf E=1)(n)(hn:P.types.size=n+1):Ka P K:=by
 refine⟨law,fun x hx=>?_⟩;unfold keyOf iv;rw[hu];simp only[hkt,Bool.true_and];rw[if_pos (by simp[Value.formed,hu,hcells])];rw[hn];have hr:List.range 2=[0,1]:=rfl;simp[Program.keyLits,hu,hcells,ce,he,hx.1,hx.2,Value.cells,ik,hr]
section
variable {P:Program} {K T E:TypeId}
def TMap(P:Program)(K E:TypeId)(b n:Nat)(X:Itm->Option Int)(w:World):Prop:=
 ∃D:DataW Unit,w.ownsMap P K (plainElem P E) b n D/\∀x,W64 x->has D (ik x)=(X x).isSome/\D.atKey (ik x) (.lit (.int .i64 0))=.lit (.int .i64 ((X x).getD 0))
theorem TMap.made(w:World)(P)(K E):TMap P K E w.heap.size 0 (fun _=>none) (w.alloc (.map #[] 0)):=
 ⟨_,World.ownsMap_made w P K _,fun x _=>⟨rfl,rfl⟩⟩
theorem TMap.mono{b n n'}{X}{w}(h:TMap P K E b n X w)(hn:n<=n'):TMap P K E b n' X w:=by
 obtain⟨D,h,k⟩:=h;exact⟨D,h.mono hn,k⟩
theorem TMap.eq{b n}{X Y}{w}(h:TMap P K E b n X w)(e:∀x,X x=Y x):TMap P K E b n Y w:=by
 obtain⟨D,h,k⟩:=h;exact⟨D,h,fun x hx=>by rw[←e x];exact k x hx⟩
theorem TMap.keep{b n}{X}{w w'}(h:TMap P K E b n X w)(hb:w'.heap[b]?=w.heap[b]?):TMap P K E b n X w':=by
 obtain⟨D,h,k⟩:=h;exact⟨D,Sep.ownsMap_at h hb,k⟩
theorem TMap.store{b n}{X}{w}(h:TMap P K E b n X w)(k:Ka P K)(ht:P.underlying T=some (.map K E))(he:P.underlying E=some (.int .i64))(hn:n<maxLen){x}(hx:W64 x){t}(hw:(Lit.int .i64 t).wf=true):
  ∃w',(Instr.mapUpdate T (.map (some b)) (iv x) (.int .i64 t)).run P w=.ok () w'/\TMap P K E b (n+1) (fun y=>if y=x then some t else X y) w'/\w.mapTurned w' b:=by
 obtain⟨D,ho,kd⟩:=h;obtain⟨w',hrun,h1,h2⟩:=ho.store k.law ht hn (k.key x hx) (plainElem_int he hw);refine⟨w',hrun,⟨_,h1,fun y hy=>?_⟩,h2⟩
 by_cases e:y=x
 ·subst e;show _=(if y=y then some t else X y).isSome/\_=DataW.lit (Lit.int .i64 ((if y=y then some t else X y).getD 0));rw[if_pos rfl,has_put_same ho.isMap (k.law.key (k.key y hy)),atKey_put_same ho.isMap (k.law.key (k.key y hy))];exact⟨rfl,rfl⟩
 ·have hne:ik y≠ik x:=fun q=>e (zM8 hy hx q)
  show _=(if y=x then some t else X y).isSome/\_=DataW.lit (Lit.int .i64 ((if y=x then some t else X y).getD 0));rw[if_neg e,has_put_other hne,atKey_put_other hne];exact kd y hy
theorem zDO{ops}{rest}{o}{a}{Q}(w)(hg:o.guard=none)(m y)(hop:o.op=Op.lookup T m y true)(k:Ka P K)(ht:P.underlying T=some (.map K E))(he:P.underlying E=some (.int .i64))
  (hz:(zeroValue E).run P w=.ok (.int .i64 0) w) (b n) (X) (hm:a.eval m=.map (some b)) (h:TMap P K E b n X w) (x) (hy:a.eval y=iv x) (hx:W64 x)
  (hK:wpList P ops Q rest (a.put o.dst (.tuple #[.int .i64 ((X x).getD 0),.bool (X x).isSome])) w):wpList P ops Q (o::rest) a w:=by
 obtain⟨D,ho,kd⟩:=h;refine wpList_lookup_own_ok_int w hg m y T hop K E .i64 k.law ht he hz b n D hm ho _ _ hy (k.key x hx) fun d hat _=>?_
 rw[(kd x hx).2]at hat;simp only[DataW.lit.injEq,Lit.int.injEq,true_and]at hat;subst hat;rw[(kd x hx).1];exact hK
def SMap(P:Program)(K E:TypeId)(b n:Nat)(L:List ByteArray)(w:World):Prop:=∃D:DataW Unit,w.ownsMap P K (plainElem P E) b n D/\zME L D
theorem SMap.made(w:World)(P)(K E):SMap P K E w.heap.size 0 [] (w.alloc (.map #[] 0)):=⟨_,World.ownsMap_made w P K _,zH8⟩
theorem SMap.lt{b n}{L}{w}(h:SMap P K E b n L w):b<w.heap.size:=by
 obtain⟨D,h,_⟩:=h;exact h.lt
theorem SMap.keep{b n}{L}{w w'}(h:SMap P K E b n L w)(hb:w'.heap[b]?=w.heap[b]?):SMap P K E b n L w':=by
 obtain⟨D,h,k⟩:=h;exact⟨D,Sep.ownsMap_at h hb,k⟩
theorem zDN{ops}{rest}{o}{a}{Q}(w)(hg:o.guard=none)(m y)(hop:o.op=Op.lookup T m y true)(law:Keyed P K)(hk:P.underlying K=some .string)(ht:P.underlying T=some (.map K E))(he:P.underlying E=some (.int .i64))
  (hz:(zeroValue E).run P w=.ok (.int .i64 0) w) (b n) (L) (hm:a.eval m=.map (some b)) (h:SMap P K E b n L w) (s) (hy:a.eval y=.string s) (hs:s.size<=maxLen)
  (hK:wpList P ops Q rest (a.put o.dst (.tuple #[.int .i64 (num L s),.bool (isIn L s)])) w):wpList P ops Q (o::rest) a w:=by
 obtain⟨D,ho,kd⟩:=h;refine wpList_lookup_own_ok_int w hg m y T hop K E .i64 law ht he hz b n D hm ho _ _ hy (WideMaps.keyOf_string_mk hk hs) fun d hat _=>?_
 rw[(kd s).2]at hat;simp only[DataW.lit.injEq,Lit.int.injEq,true_and]at hat;subst hat;rw[(kd s).1];exact hK
theorem zFu{ops}{rest}{o}{a}{Q}(w)(hg:o.guard=none)(m y v)(hop:o.op=Op.mapUpdate T m y v)(law:Keyed P K)(hk:P.underlying K=some .string)(ht:P.underlying T=some (.map K E))(he:P.underlying E=some (.int .i64))
  (b n) (L) (hm:a.eval m=.map (some b)) (h:SMap P K E b n L w) (hn:n<maxLen) (s) (hy:a.eval y=.string s) (hs:s.size<=maxLen) (hnew:isIn L s=false) (z) (hv:a.eval v=.int .i64 z) (hzl:z=(L.length:Int)) (hl:L.length<9223372036854775808)
  (hK:∀w',SMap P K E b (n+1) (L++[s]) w'->w.grownBy w' (some b)->wpList P ops Q rest (a.put o.dst undef) w'):wpList P ops Q (o::rest) a w:=by
 obtain⟨D,ho,kd⟩:=h;subst hzl;refine wpList_mapUpdate_own w hg m y v T hop K E law ht (plainElem P E) b n D hm ho hn _ _ _ hy hv (WideMaps.keyOf_string_mk hk hs) _ [] (plainElem_int he (by simp only[Lit.wf,IntKind.min,IntKind.max,IntKind.signed,IntKind.bits,Bool.and_eq_true,decide_eq_true_eq,if_true];omega)) fun w' h1 h2=>hK w' ⟨_,h1,zH9 ho.isMap (law.key (WideMaps.keyOf_string_mk hk hs)) kd hnew⟩ h2
end
