/- Proof. -/
import Derived.Test.YtegeamggbglneaaGreatDoorPk03
import Derived.Deep.RegionLaw
set_option maxHeartbeats 1000000
set_option linter.unusedVariables false
set_option linter.unusedSimpArgs false
namespace Go.Proofs.YtegeamggbglneaaGreatDoor
open Go.RowKit Go.Maps
namespace Gr
def jw(L M:List Int):Bool:=decide (L=M)
def ze(x y:Int):Bool:=decide (x=y)
theorem GY{α:Type}{L M:List α}(h:L.length≠M.length):¬L=M:=fun e=>h (by rw[e])
def Alike{α:Type}(L M:List α)(k:Nat):Prop:=∀j (h1:j<L.length) (h2:j<M.length),j<k->L[j]=M[j]
theorem Gz{α}(L M:List α):Alike L M 0:=fun _ _ _ h=>absurd h (by omega)
theorem Gy{α}{L M:List α}{k}(h:Alike L M k)(h1)(h2:k<M.length)(e:L[k]=M[k]):Alike L M (k+1):=fun j g1 g2 hj=>by
 by_cases he:j=k
 ·subst he;exact e
 ·exact h j g1 g2 (by omega)
theorem GQ{α}{L M:List α}{k}(h:Alike L M k)(hl:L.length=M.length)(hk:¬k<L.length):L=M:=List.ext_getElem hl fun i h1 h2=>h i h1 h2 (by omega)
theorem Gx{α:Type}{L M:List α}{k}(h1)(h2:k<M.length)(e:L[k]≠M[k]):¬L=M:=fun h=>e (by subst h;rfl)
theorem zS{a}{xs}{w}{k n}{v}(h:Sep.Reads a xs w)(hl:n=xs.length)(hk:k<n)(hv:xs[k]?=some v):∃b o,a=some ⟨b,o,none⟩/\w.cell? ⟨b,o+k,none⟩=some v:=by
 obtain⟨b,o,e,hc⟩:=h k (by omega);refine⟨b,o,e,hc.trans ?_⟩;rw[List.getElem?_eq_getElem (by omega)]at hv;exact hv
theorem Xg(x y)(w):Calls Tryz.prog 213 #[.int .i64 x,.int .i64 y] w fun e w'=>e=.returned (.bool (ze x y))/\w=w':=by
 go_enter Tryz.func213,Tryz.ntmps213;go_wp2;go_ret;refine⟨aU ?_,rfl⟩;unfold ze;rw[Bool.eq_iff_iff];simp
theorem zU6(L M)(a b)(c d)(w)(ha:Sep.Reads a (aN L) w)(hb:Sep.Reads b (aN M) w)(hl:L.length<=17592186044416)(hm:M.length<=17592186044416):
  Calls Tryz.prog 212 #[.slice a L.length c,.slice b M.length d,.func (.func 213) #[] #[]] w fun e w'=>e=.returned (.bool (jw L M))/\w=w':=by
 have HA:=af ha;have HB:=af hb;clear ha hb
 by_cases hlen:L.length=M.length
 ·have HL:=af hlen;have hle:M.length<=L.length:=by omega
  have Cc:L.length<=M.length:=by omega
  have hlb:((L.length:Int) != (M.length:Int))=false:=by simp[hlen]
  clear hlen;go_enter Tryz.func212,Tryz.ntmps212;go_wp2;go_loop [16] (fun i=>∃k:Nat,k<=L.length/\i=.int .i64 k/\Alike L M k) (fun i=>L.length-(intOf i).toNat)
  case atStart=>exact⟨0,Nat.zero_le _,rfl,Gz _ _⟩
  case round=>
   obtain⟨k,hk,rfl,hA⟩:=hrel;have A:=af hA;clear hA
   by_cases hlt:k<L.length
   ·have hlm:k<M.length:=by omega
    obtain⟨b1,o1,rfl,h1⟩:=zS (v:=.int .i64 L[k]) HA.out (by simp[aN]) hlt (by simp[aN,iv,hlt]);obtain⟨b2,o2,rfl,h2⟩:=zS (v:=.int .i64 M[k]) HB.out (by simp[aN]) hlm (by simp[aN,iv,hlm])
    by_cases he:L[k]=M[k]
    ·have A2:=af (Gy A.out hlt hlm he);have E:=af (show ze L[k] M[k]=true by simp[ze,he]);clear he;generalize L[k]=x at h1 E;generalize M[k]=y at h2 E;go_wp2_with (go_at_call 213;refine(Xg _ _ _).mono ?_;rw[E.out];rintro e w1 ⟨rfl,rfl⟩);go_round
     case rel=>exact⟨k+1,by omega,by go_num,A2.out⟩
     case measure=>simp[intOf];omega
    ·have F:=af (show jw L M=false by simpa[jw]using Gx hlt hlm he);have E:=af (show ze L[k] M[k]=false by simp[ze,he]);clear he;generalize L[k]=x at h1 E;generalize M[k]=y at h2 E;go_wp2_with (go_at_call 213;refine(Xg _ _ _).mono ?_;rw[E.out];rintro e w1 ⟨rfl,rfl⟩);go_ret;exact⟨aU F.out,rfl⟩
   ·have F:=af (show jw L M=true by simpa[jw]using GQ A.out HL.out hlt);go_wp2;go_ret;exact⟨aU F.out,rfl⟩
 ·have F:=af (show jw L M=false by simpa[jw]using GY hlen);have hlb:((L.length:Int) != (M.length:Int))=true:=by simpa using fun h=>hlen (by omega)
  clear hlen;go_enter Tryz.func212,Tryz.ntmps212;go_wp2;go_ret;exact⟨aU F.out,rfl⟩
theorem zTD(L M)(a b)(c d)(w)(ha:Sep.Reads a (aN L) w)(hb:Sep.Reads b (aN M) w)(hl:L.length<=17592186044416)(hm:M.length<=17592186044416):
  Calls Tryz.prog 177 #[.slice a L.length c,.slice b M.length d] w fun e w'=>e=.returned (.bool (jw L M))/\w=w':=by
 have H:=af (zU6 L M a b c d w ha hb hl hm);clear ha hb;go_enter Tryz.func177,Tryz.ntmps177;go_wp2_with (go_at_call 212;refine H.out.mono ?_;rintro e w1 ⟨rfl,rfl⟩);go_ret;exact⟨rfl,rfl⟩
theorem Hq(L M)(a b)(c d)(w)(ha:Sep.Reads a (aN L) w)(hb:Sep.Reads b (aN M) w)(hl:L.length<=17592186044416)(hm:M.length<=17592186044416):
  Calls Tryz.prog 35 #[.slice a L.length c,.slice b M.length d] w (Is (.bool (jw L M)) w):=by
 have HA:=af ha;have HB:=af hb;clear ha hb
 by_cases hlen:L.length=M.length
 ·have HL:=af hlen;have hle:M.length<=L.length:=by omega
  have Cc:L.length<=M.length:=by omega
  have hlb:((L.length:Int) != (M.length:Int))=false:=by simp[hlen]
  clear hlen;go_enter Tryz.func35,Tryz.ntmps35;go_wp2;go_loopw [5] (fun i wr=>∃k:Nat,k<=L.length/\i=.int .i64 k/\Alike L M k/\Below w.heap.size w wr) (fun i _=>L.length-(intOf i).toNat)
  case atStart=>exact⟨0,Nat.zero_le _,rfl,Gz _ _,.refl _ _⟩
  case round=>
   obtain⟨k,hk,rfl,hA,hW⟩:=hrel;have A:=af hA;have HW:=af hW;clear hA
   by_cases hlt:k<L.length
   ·have hlm:k<M.length:=by omega
    obtain⟨b1,o1,rfl,h1⟩:=zS (v:=.int .i64 L[k]) HA.out (by simp[aN]) hlt (by simp[aN,iv,hlt]);obtain⟨b2,o2,rfl,h2⟩:=zS (v:=.int .i64 M[k]) HB.out (by simp[aN]) hlm (by simp[aN,iv,hlm]);have k1:=cell_later hW h1;have k2:=cell_later hW h2;clear h1 h2 hW
    by_cases he:L[k]=M[k]
    ·have A2:=af (Gy A.out hlt hlm he);rw[he]at k1;clear he;generalize M[k]=y at k1 k2;go_wp2;go_quiet (fail);go_wp2;go_roundw
     case rel=>exact⟨k+1,by omega,by go_num,A2.out,HW.out.trans ⟨rfl,rfl,rfl,Nat.le_refl _,fun _ _=>rfl⟩⟩
     case measure=>simp[intOf];omega
    ·have F:=af (show jw L M=false by simpa[jw]using Gx hlt hlm he);have E:=(show(L[k] != M[k])=true by simpa using he);clear he;generalize L[k]=x at k1 E;generalize M[k]=y at k2 E;go_wp2;go_quiet (fail);go_wp2;go_ret;exact⟨aU F.out,HW.out.trans ⟨rfl,rfl,rfl,Nat.le_refl _,fun _ _=>rfl⟩⟩
   ·have F:=af (show jw L M=true by simpa[jw]using GQ A.out HL.out hlt);clear hW;go_wp2;go_ret;exact⟨aU F.out,HW.out⟩
 ·have F:=af (show jw L M=false by simpa[jw]using GY hlen);have hlb:((L.length:Int) != (M.length:Int))=true:=by simpa using fun h=>hlen (by omega)
  clear hlen;go_enter Tryz.func35,Tryz.ntmps35;go_wp2;go_ret;exact⟨aU F.out,.refl _ _⟩
end Gr
namespace Rw
theorem zFk{P}(w)(t ty)(base)(e)(i)(z)(size bytes)(ht:P.underlying t=some (.slice e))(hi:P.info? e=some i)(hz:i.zero=some z)
  (hsize:i.size=size) (hby:i.bytes=bytes) (hzs:z.cells.size=size) (hpos:0<size) (v) (n) (xs) (hown:w.ownsRow base e size v n xs)
  (fG) (v2) (m) (ys) (hown2:w.ownsRow fG e size v2 m ys) (h1:∀u∈ys,u.oneCell'=true)
  (h63:n+m<=maxLen) (hbytes:(n+m)*bytes<=140737488355328) (hbase:base<=w.heap.size):
  ∃v' w',(Builtin.append_ #[t,t] ty #[v,v2]).run P w=.ok v' w'/\w'.ownsRow base e size v' (n+m) (xs++ys)/\w.grownBy w' v.ownBlock/\(v'.ownBlock=v.ownBlock\/v'.ownBlock=some w.heap.size):=by
 have hlen:=hown2.1;rcases hown2.2 with⟨rfl,rfl⟩|⟨g2,cap2,AP,rfl,aaZ,hg2,abk,hcm2,aa1,KW⟩
 ·have h0:ys=[]:=List.eq_nil_of_length_eq_zero (by simpa using hlen);subst h0;refine⟨v,w,?_,by simpa using hown,⟨rfl,rfl,rfl,Nat.le_refl _,fun _ _ _=>rfl⟩,.inl rfl⟩;rcases hown.2 with⟨rfl,rfl⟩|⟨g,cap,cur,rfl,hbg,hg,hnc,hcm,hcs,htake⟩
  ·simp[Builtin.append_,run_underlying ht,sizeOf,typeInfo,hi,Builtin.lenOf,Builtin.firstCells]
  ·simp[Builtin.append_,run_underlying ht,sizeOf,typeInfo,hi,Builtin.lenOf,Builtin.firstCells,loadCells,storeCells,hnc]
 ·obtain⟨v',w',h2,h3,h4,_,h5⟩:=run_append_own_at (P:=P) w base t ty e i z size bytes ht hi hz hsize hby hzs hpos v n xs hown ⟨g2,0,none⟩ m cap2 ys hlen (hown2.cells rfl) h1 h63 hbytes hbase;exact⟨v',w',h2,h3,h4,h5⟩
theorem Tm{P}(w){o:Oper}{a}{K}{Q}(s x)(t)
  (ho:o.op=.call {callee:=.builtin .append,args:=#[s,x],argTypes:=#[t,t]})
  (base) (e) (i) (z) (size bytes) (ht:P.underlying t=some (.slice e)) (hi:P.info? e=some i) (hz:i.zero=some z)
  (hsize:i.size=size) (hby:i.bytes=bytes) (hzs:z.cells.size=size) (hpos:0<size) (v) (n) (xs) (hs:a.eval s=v) (hown:w.ownsRow base e size v n xs)
  (fG) (v2) (m) (ys) (hx:a.eval x=v2) (hown2:w.ownsRow fG e size v2 m ys) (h1:∀u∈ys,u.oneCell'=true)
  (h63:n+m<=maxLen) (hbytes:(n+m)*bytes<=140737488355328) (hbase:base<=w.heap.size)
  (h:∀v' w',w'.ownsRow base e size v' (n+m) (xs++ys)->w.grownBy w' v.ownBlock->(v'.ownBlock=v.ownBlock\/v'.ownBlock=some w.heap.size)->K (a.put o.dst v') w'):o.wp P a w K Q:=by
 obtain⟨v',w',hr,h2,h3,h4⟩:=zFk (P:=P) w t o.type base e i z size bytes ht hi hz hsize hby hzs hpos v n xs hown fG v2 m ys hown2 h1 h63 hbytes hbase;unfold Oper.wp execOp;simp only[ho,resolve,invoke,builtin,Sem.run_bind,Sem.run_pure,Result.andThen_ok,List.map_toArray,List.map_cons,List.map_nil,hs,hx,hr];exact h v' w' h2 h3 h4
theorem lL{P}(w){ops}{rest}{o}{a}{Q}(hgd:o.guard=none)(s x)(t)
  (ho:o.op=.call {callee:=.builtin .append,args:=#[s,x],argTypes:=#[t,t]})
  (base) (e) (i) (z) (size bytes) (ht:P.underlying t=some (.slice e)) (hi:P.info? e=some i) (hz:i.zero=some z)
  (hsize:i.size=size) (hby:i.bytes=bytes) (hzs:z.cells.size=size) (hpos:0<size) (v) (n) (xs) (hs:a.eval s=v) (hown:w.ownsRow base e size v n xs)
  (fG) (v2) (m) (ys) (hx:a.eval x=v2) (hown2:w.ownsRow fG e size v2 m ys) (h1:∀u∈ys,u.oneCell'=true)
  (h63:n+m<=maxLen) (hbytes:(n+m)*bytes<=140737488355328) (hbase:base<=w.heap.size)
  (h:∀v' w',w'.ownsRow base e size v' (n+m) (xs++ys)->w.grownBy w' v.ownBlock->(v'.ownBlock=v.ownBlock\/v'.ownBlock=some w.heap.size)->wpList P ops Q rest (a.put o.dst v') w'):wpList P ops Q (o::rest) a w:=
 wpList_plain hgd fun _ hK=>Tm w s x t ho base e i z size bytes ht hi hz hsize hby hzs hpos v n xs hs hown fG v2 m ys hx hown2 h1 h63 hbytes hbase fun v' w' h2 h3 h4=>hK _ _ (h v' w' h2 h3 h4)
theorem gZ{P}(w){ops}{o}{a}{K}{Q}{E}(hgd:o.guard=none)(s x)(t)
  (ho:o.op=.call {callee:=.builtin .append,args:=#[s,x],argTypes:=#[t,t]})
  (base) (e) (i) (z) (size bytes) (ht:P.underlying t=some (.slice e)) (hi:P.info? e=some i) (hz:i.zero=some z)
  (hsize:i.size=size) (hby:i.bytes=bytes) (hzs:z.cells.size=size) (hpos:0<size) (v) (n) (xs) (hs:a.eval s=v) (hown:w.ownsRow base e size v n xs)
  (fG) (v2) (m) (ys) (hx:a.eval x=v2) (hown2:w.ownsRow fG e size v2 m ys) (h1:∀u∈ys,u.oneCell'=true)
  (h63:n+m<=maxLen) (hbytes:(n+m)*bytes<=140737488355328) (hbase:base<=w.heap.size)
  (h:∀v' w',w'.ownsRow base e size v' (n+m) (xs++ys)->w.grownBy w' v.ownBlock->(v'.ownBlock=v.ownBlock\/v'.ownBlock=some w.heap.size)->K (a.put o.dst v') w'):
  if Region.wanted o (yielded ops a.tmps)=true then Oper.wp P o a w K Q else E:=by
 have hw:Region.wanted o (yielded ops a.tmps)=true:=by simp[Region.wanted,hgd]
 rw[if_pos hw];exact Tm w s x t ho base e i z size bytes ht hi hz hsize hby hzs hpos v n xs hs hown fG v2 m ys hx hown2 h1 h63 hbytes hbase h
theorem cu{w:World}{base size n}{e}{v}{xs}(h:w.ownsRow base e size v n xs):∃a cap,v=.slice a n cap:=by
 rcases h.2 with⟨rfl,rfl⟩|⟨g,cap,cur,rfl,_⟩
 ·exact⟨_,_,rfl⟩
 ·exact⟨_,_,rfl⟩
theorem su{w:World}{b b' size n}{e}{v}{xs}(h:w.ownsRow b e size v n xs)(hb:b'<=b):w.ownsRow b' e size v n xs:=by
 obtain⟨h1,h2⟩:=h;refine⟨h1,h2.imp id ?_⟩;rintro⟨g,cap,cur,h3,h4,h5⟩;exact⟨g,cap,cur,h3,Nat.le_trans hb h4,h5⟩
def Bk(q:Nat)(cs:Array Value)(T:TypeId)(w:World):Prop:=w.heap[q]?=some (.cells cs T)
theorem Bk.new(w:World)(cs)(T)(n)(hn:n=w.heap.size):Bk n cs T (w.alloc (.cells cs T)):=by
 subst hn;exact heap_alloc_new w _
theorem Bk.lt{q}{cs}{T}{w}(h:Bk q cs T w):q<w.heap.size:=by
 rcases Nat.lt_or_ge q w.heap.size with h1|h1
 ·exact h1
 ·unfold Bk at h;rw[Array.getElem?_eq_none h1]at h;cases h
theorem Bk.fr{q}{cs}{T}{S}{w w'}(h:Bk q cs T w)(k:Sep.Fr S w w')(hq:¬S q):Bk q cs T w':=(k.block q h.lt hq).trans h
theorem Bk.went{q}{cs}{T}{w w'}(h:Bk q cs T w)(k:Below w.heap.size w w'):Bk q cs T w':=(k.block q h.lt).trans h
theorem Bk.cell{q}{cs}{T}{w}(h:Bk q cs T w){j}{v}(hv:cs[j]?=some v):w.cell? ⟨q,j,none⟩=some v:=by
 unfold Bk at h;simp[World.cell?,h,hv]
theorem Bk.free{q}{cs}{T}{w}(h:Bk q cs T w)(j):w.frozen? ⟨q,j,none⟩=false:=by
 unfold Bk at h;simp[World.frozen?,h]
theorem En(w:World)(a)(v):(w.setCell a v).heap.size=w.heap.size:=by simp[World.setCell]
theorem Bk.set{q j}{cs}{T}{w}(h:Bk q cs T w)(hj:j<cs.size)(v):Bk q (cs.setIfInBounds j v) T (w.setCell ⟨q,j,none⟩ v):=by
 unfold Bk at h⊢;obtain⟨hl,h⟩:=Array.getElem?_eq_some_iff.1 h;rw[Array.getElem?_eq_some_iff];refine⟨by rw[En];exact hl,?_⟩;simp[World.setCell,Array.getElem_modify,h]
theorem Bk.two{q}{a b}{T}{w}(h:Bk q #[a,b] T w):w.cell? ⟨q,0,none⟩=some a/\w.cell? ⟨q,1,none⟩=some b/\(∀j,w.frozen? ⟨q,j,none⟩=false):=⟨h.cell rfl,h.cell rfl,h.free⟩
theorem zU{S}{w w1 w2}(h:Sep.Fr S w w1)(k:Below w1.heap.size w1 w2):Sep.Fr S w w2:=h.trans (Sep.Fr.of_below (S:=S) k) fun _ hk=> .inl hk
theorem mE{α:Type}(f:α->List Value)(hf:∀x,(f x).length=2)(L:List α)(j)(hj)(i)(hi:i<2):(L.flatMap f)[j*2+i]?=(f L[j])[i]?:=by
 induction L generalizing j with
 |nil=>simp at hj
 |cons t T ih=>
  rw[List.flatMap_cons];cases j with
  |zero=>rw[List.getElem?_append_left (by rw[hf];omega)];simp
  |succ j=>
   rw[List.getElem?_append_right (by rw[hf];omega),hf,show(j+1)*2+i-2=j*2+i by omega,ih j (by simpa using hj)];simp
