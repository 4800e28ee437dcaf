/- Proof. -/
import Derived.Test.YtegeamggbglneaaGreatDoorPk03
import Derived.ChangeKeys
import Derived.Deep.RegionLaw
import Derived.Maps.RangeWalk
import Derived.Sort.MapsRangeIn
import Derived.Sort.KeysCollected
import Derived.RangeFuncSeq
set_option linter.unusedVariables false
namespace Go.Proofs.YtegeamggbglneaaGreatDoor
namespace Im
open Gr (ai cN ax dD rF)
abbrev au:=Int×Int
def gH(a b:au):Prop:=a.1<b.1\/(a.1=b.1/\a.2<b.2)
instance (a b:au):Decidable (gH a b):=by unfold gH;infer_instance
theorem gH.trans{a b c}(h:gH a b)(k:gH b c):gH a c:=by
 unfold gH at*;omega
theorem gH.ne{a b}(h:gH a b):a≠b:=fun e=>by
 subst e;unfold gH at h;omega
theorem gH.not{a b}(h:gH a b):¬gH b a:=by
 unfold gH at*;omega
theorem YI{a b}(h:¬gH a b)(hn:a≠b):gH b a:=by
 have hn':¬(a.1=b.1/\a.2=b.2):=fun⟨e1,e2⟩=>hn (Prod.ext e1 e2)
 unfold gH at*;omega
def iG(l:List au):Prop:=l.Pairwise gH
theorem Yk:iG []:=List.Pairwise.nil
theorem ED(x):iG [x]:=List.pairwise_singleton _ _
theorem Yj:∀{a b:List au},iG a->iG b->(∀x,x∈a↔x∈b)->a=b
 |[],[],_,_,_=>rfl
 |[],y::b,_,_,h=>by
  have:=(h y).2 (List.mem_cons_self ..);cases this
 |x::a,[],_,_,h=>by
  have:=(h x).1 (List.mem_cons_self ..);cases this
 |x::a,y::b,ha,hb,h=>by
  have ha':=List.pairwise_cons.1 ha;have hb':=List.pairwise_cons.1 hb
  have e:x=y:=by
   rcases List.mem_cons.1 ((h x).1 (List.mem_cons_self ..))with e|e
   ·exact e
   ·rcases List.mem_cons.1 ((h y).2 (List.mem_cons_self ..))with e'|e'
    ·exact e'.symm
    ·exact absurd (ha'.1 _ e') (hb'.1 _ e).not
  subst e
  congr 1
  refine Yj ha'.2 hb'.2 fun z=>?_
  constructor
  ·intro hz;rcases List.mem_cons.1 ((h z).1 (List.mem_cons_of_mem _ hz))with e|e
   ·subst e;exact absurd rfl (ha'.1 _ hz).ne
   ·exact e
  ·intro hz;rcases List.mem_cons.1 ((h z).2 (List.mem_cons_of_mem _ hz))with e|e
   ·subst e;exact absurd rfl (hb'.1 _ hz).ne
   ·exact e
def Is(l:List au)(P:au->Prop):Prop:=iG l/\∀x,x∈l↔P x
theorem Is.uniq{a b}{P}(h:Is a P)(k:Is b P):a=b:=Yj h.1 k.1 fun x=>(h.2 x).trans (k.2 x).symm
theorem Is.iff{a}{P Q}(h:Is a P)(e:∀x,P x↔Q x):Is a Q:=⟨h.1,fun x=>(h.2 x).trans (e x)⟩
theorem Is.nil{P}(h:∀x,¬P x):Is [] P:=⟨Yk,fun x=>⟨fun hx=>(List.not_mem_nil hx).elim,fun hx=>absurd hx (h x)⟩⟩
def cE:List au->au->List au
 |[],x=>[x]
 |y::l,x=>if gH y x then y::cE l x else if y=x then y::l else x::y::l
theorem Ob{x z}:∀{l:List au},z∈cE l x↔z∈l\/z=x
 |[]=>by simp[cE]
 |y::l=>by
  unfold cE;split
  ·rw[List.mem_cons,Ob,List.mem_cons,or_assoc]
  ·split
   ·rename_i e;subst e;simp only[List.mem_cons];constructor
    ·exact fun h=> .inl h
    ·rintro(h|h)
     ·exact h
     ·exact .inl h
   ·simp only[List.mem_cons];constructor
    ·rintro(h|h|h)
     ·exact .inr h
     ·exact .inl (.inl h)
     ·exact .inl (.inr h)
    ·rintro((h|h)|h)
     ·exact .inr (.inl h)
     ·exact .inr (.inr h)
     ·exact .inl h
theorem XO{x}:∀{l:List au},iG l->iG (cE l x)
 |[],_=>ED x
 |y::l,h=>by
  have h':=List.pairwise_cons.1 h;unfold cE;split
  ·rename_i hl;refine List.pairwise_cons.2 ⟨fun z hz=>?_,XO h'.2⟩;rcases Ob.1 hz with e|e
   ·exact h'.1 _ e
   ·rw[e];exact hl
  ·split
   ·exact h
   ·rename_i hl hn;have hx:=YI hl hn;refine List.pairwise_cons.2 ⟨fun z hz=>?_,h⟩;rcases List.mem_cons.1 hz with e|e
    ·rw[e];exact hx
    ·exact hx.trans (h'.1 _ e)
def cQ(G:ai)(r:Int):Nat:=(ax G r).2.length
def bo(G:ai)(x:au):Bool:=cN G x.1&&decide (0<=x.2/\x.2<=(cQ G x.1:Int))
def aZ(G:ai)(x:au):Bool:=bo G x&&decide (x.2<(cQ G x.1:Int))
def aQ(G:ai)(x:au):Int:=if aZ G x then(ax G x.1).2.getD x.2.toNat 0 else 0
theorem iD{G}{x}:bo G x=true↔(0<=x.1/\x.1<=(G.rules.length:Int))/\(0<=x.2/\x.2<=(cQ G x.1:Int)):=by
 unfold bo cN;rw[Bool.and_eq_true,decide_eq_true_iff,decide_eq_true_iff]
theorem kx{G}{x}:aZ G x=true↔bo G x=true/\x.2<(cQ G x.1:Int):=by
 unfold aZ;rw[Bool.and_eq_true,decide_eq_true_iff]
theorem zLy{G}{x}(h:aZ G x=true):bo G (x.1,x.2+1)=true:=by
 obtain⟨h1,h2⟩:=kx.1 h;have h3:=iD.1 h1;rw[iD];exact⟨h3.1,by dsimp only;omega,by dsimp only;omega⟩
theorem wC{G}{r:Nat}(h:r<=G.rules.length):bo G ((r:Int),0)=true:=by
 rw[iD];exact⟨⟨by dsimp only;omega,by dsimp only;omega⟩,by dsimp only;omega,by dsimp only;omega⟩
inductive cM (G:ai) (L:List au):au->Prop
 |of {x:au}:x∈L->bo G x=true->cM G L x
 |next {y:au} {r:Nat}:cM G L y->aZ G y=true->r∈dD G (aQ G y)->cM G L ((r:Int),0)
theorem oF{G}{L}{x}(h:cM G L x):bo G x=true:=by
 cases h with
 |of _ h=>exact h
 |next _ _ h=>exact wC (Nat.le_of_lt (rF.1 h).1)
theorem zPs{G}{L M}(k:∀x∈L,x∈M){x}(h:cM G L x):cM G M x:=by
 induction h with
 |of h1 h2=>exact .of (k _ h1) h2
 |next _ h2 h3 ih=>exact .next ih h2 h3
def E6(G:ai)(L:List au)(s:Int)(x:au):Prop:=∃y∈L,aZ G y=true/\aQ G y=s/\x=(y.1,y.2+1)
theorem GP{G}{L}{s}{x}(h:E6 G L s x):bo G x=true/\0<x.2:=by
 obtain⟨y,_,h1,_,h2⟩:=h;subst h2;have:=iD.1 (kx.1 h1).1;exact⟨zLy h1,by dsimp only;omega⟩
structure Mid (G:ai) (L out:List au):Prop where
 Sz:iG out
 all:∀x∈L,bo G x=true->x∈out
 sub:∀x∈out,cM G L x
theorem Mid.start{G}{L out}(h:Is out (fun x=>x∈L/\bo G x=true)):Mid G L out:=
 ⟨h.1,fun x h1 h2=>(h.2 x).2 ⟨h1,h2⟩,fun x hx=> .of ((h.2 x).1 hx).1 ((h.2 x).1 hx).2⟩
def Shut(G:ai)(out:List au):Prop:=∀y∈out,aZ G y=true->∀r∈dD G (aQ G y),((r:Int),(0:Int))∈out
theorem Mid.done{G}{L out}(m:Mid G L out)(h:Shut G out):Is out (cM G L):=by
 refine⟨m.Sz,fun x=>⟨m.sub x,fun k=>?_⟩⟩
 induction k with
 |of h1 h2=>exact m.all _ h1 h2
 |next _ h2 h3 ih=>exact h _ ih h2 _ h3
def allI(G:ai):List au:=(List.range (G.rules.length+1)).flatMap fun(r:Nat)=>(List.range (cQ G (r:Int)+1)).map fun(d:Nat)=>((r:Int),(d:Int))
theorem uC{G}{x}(h:bo G x=true):x∈allI G:=by
 obtain⟨⟨h1,h2⟩,h3,h4⟩:=iD.1 h;obtain⟨r,d⟩:=x;dsimp only at h1 h2 h3 h4;obtain⟨r,rfl⟩:=Int.eq_ofNat_of_zero_le h1;obtain⟨d,rfl⟩:=Int.eq_ofNat_of_zero_le h3;unfold allI;rw[List.mem_flatMap];exact⟨r,List.mem_range.2 (by omega),List.mem_map.2 ⟨d,List.mem_range.2 (by omega),rfl⟩⟩
theorem Vx{l}(h:iG l):l.Nodup:=h.imp fun k=>k.ne
theorem G6:∀{l M:List au},l.Nodup->(∀x∈l,x∈M)->l.length<=M.length
 |[],_,_,_=>Nat.zero_le _
 |x::l,M,h,k=>by
  have h':=List.nodup_cons.1 h;have hx:=k x (List.mem_cons_self ..);have:=G6 (M:=M.erase x) h'.2 fun z hz=>(List.mem_erase_of_ne (fun e=>h'.1 (by rw[←e];exact hz))).2 (k z (List.mem_cons_of_mem _ hz))
  rw[List.length_erase_of_mem hx]at this;have:=List.length_pos_of_mem hx;rw[List.length_cons];omega
theorem Ib{G}{l}(h:iG l)(k:∀x∈l,bo G x=true):l.length<=(allI G).length:=
 G6 (Vx h) fun x hx=>uC (k x hx)
def adds(out:List au)(rs:List Nat):List au:=rs.foldl (fun l (r:Nat)=>cE l ((r:Int),0)) out
theorem Nq{x}:∀{rs:List Nat} {out:List au},x∈adds out rs↔x∈out\/∃r∈rs,x=((r:Int),0)
 |[],out=>by simp[adds]
 |r::rs,out=>by
  show x∈adds (cE out ((r:Int),0)) rs↔_;rw[Nq,Ob];simp only[List.mem_cons];constructor
  ·rintro((h|h)|⟨q,h1,h2⟩)
   ·exact .inl h
   ·exact .inr ⟨r,.inl rfl,h⟩
   ·exact .inr ⟨q,.inr h1,h2⟩
  ·rintro(h|⟨q,rfl|h1,h2⟩)
   ·exact .inl (.inl h)
   ·exact .inl (.inr h2)
   ·exact .inr ⟨q,h1,h2⟩
theorem WY:∀{rs:List Nat} {out:List au},iG out->iG (adds out rs)
 |[],_,h=>h
 |r::rs,out,h=>by
  show iG (adds (cE out ((r:Int),0)) rs);exact WY (XO h)
theorem Mid.adds{G}{L out}(m:Mid G L out){y}(hy:cM G L y)(hb:aZ G y=true):Mid G L (adds out (dD G (aQ G y))):=
 ⟨WY m.Sz,fun x h1 h2=>Nq.2 (.inl (m.all x h1 h2)),fun x hx=>by
  rcases Nq.1 hx with e|⟨r,hr,rfl⟩
  ·exact m.sub x e
  ·exact .next hy hb hr⟩
theorem zSo{G}{B}(h:∀r:Nat,r<=G.rules.length->cQ G (r:Int)<=B):(allI G).length<=(G.rules.length+1)*(B+1):=by
 unfold allI
 have:∀n,n<=G.rules.length+1->((List.range n).flatMap fun(r:Nat)=>(List.range (cQ G (r:Int)+1)).map fun(d:Nat)=>((r:Int),(d:Int))).length<=n*(B+1):=fun n=>by
  induction n with
  |zero=>simp
  |succ n ih=>
   intro hn;rw[List.range_succ,List.flatMap_append,List.length_append];have h1:=ih (by omega);have h2:=h n (by omega);simp only[List.flatMap_cons,List.flatMap_nil,List.append_nil,List.length_map,List.length_range];rw[Nat.succ_mul];omega
 exact this _ (Nat.le_refl _)
end Im
namespace Im
open Go.RowKit Go.Maps
def dY(x:au):Prop:=(Lit.int .i64 x.1).wf=true/\(Lit.int .i64 x.2).wf=true
def iv(x:au):Value:=.agg #[.int .i64 x.1,.int .i64 x.2]
def ik(x:au):Lit:=.string (keyBytes [.int .i64 x.1,.int .i64 x.2])
theorem Oz{x y}(hx:dY x)(hy:dY y)(h:ik x=ik y):x=y:=by
 unfold ik at h;simp only[Lit.string.injEq]at h
 have:=keyBytes_inj (l:=[.int .i64 x.1,.int .i64 x.2]) (l':=[.int .i64 y.1,.int .i64 y.2]) (by simp[Alike,Lit.sameKind])
  (fun a ha=>by
   simp only[List.mem_cons,List.not_mem_nil,or_false]at ha;rcases ha with rfl|rfl
   ·exact hx.1
   ·exact hx.2)
  (fun a ha=>by
   simp only[List.mem_cons,List.not_mem_nil,or_false]at ha;rcases ha with rfl|rfl
   ·exact hy.1
   ·exact hy.2) h
 simp at this;exact Prod.ext this.1 this.2
structure Kt (P:Program) (K:TypeId):Prop where
 law:Keyed P K
 key:∀x,dY x->keyOf P K (iv x)=some (ik x)
 inv:∀key kl,keyOf P K key=some kl->∃x,dY x/\key=iv x/\kl=ik x
theorem Wu{P:Program}{d}{t}{v}{l}(hu:P.underlying t=some (.int .i64))(h:P.keyLits (d+1) t [v]=some l):∃n,v=.int .i64 n/\(Lit.int .i64 n).wf=true/\l=[.int .i64 n]:=by
 unfold Program.keyLits at h;rw[hu]at h;cases v<;>simp at h
 obtain⟨⟨rfl,hw⟩,rfl⟩:=h;exact⟨_,rfl,hw,rfl⟩
theorem zWZ{P}{K}(fa fb)(law:Keyed P K)(hu:P.underlying K=some (.struct #[fa,fb]))(ha:P.underlying fa.type=some (.int .i64))(hb:P.underlying fb.type=some (.int .i64))(vr:P.keyType K=true)(hcells:P.cellsOf K=2)
  (ca:P.cellsOf fa.type=1) (cb:P.cellsOf fb.type=1) (oa:fa.offset=0) (ob:fb.offset=1) (na:(fa.name != "_")=true) (nb:(fb.name != "_")=true) (n) (hn:P.types.size=n+1):Kt P K:=by
 refine⟨law,fun x hx=>?_,fun key kl h=>?_⟩
 ·unfold keyOf iv;rw[hu];simp only[vr,Bool.true_and];rw[if_pos (by simp[Value.formed,hu,hcells])];rw[hn];simp[Program.keyLits,hu,hcells,ca,cb,oa,ob,ha,hb,na,nb,hx.1,hx.2,Value.cells,ik]
 ·unfold keyOf at h;rw[hu]at h;simp only[vr,Bool.true_and]at h;split at h
  ·rename_i hf;rw[Option.map_eq_some_iff]at h;obtain⟨ls,hls,rfl⟩:=h;cases key<;>simp[Value.formed,hu,hcells]at hf
   rename_i cs;obtain⟨cs⟩:=cs;rcases cs with _|⟨a,_|⟨b,_|⟨c,cs⟩⟩⟩<;>simp at hf
   rw[hn]at hls;unfold Program.keyLits at hls;rw[hu]at hls;simp[hcells,ca,cb,oa,ob,na,nb,Value.cells]at hls;cases h1:P.keyLits (n+1) fa.type [a]with
   |none=>rw[h1]at hls;simp at hls
   |some l1=>
    cases h2:P.keyLits (n+1) fb.type [b]with
    |none=>rw[h1,h2]at hls;simp at hls
    |some l2=>
     rw[h1,h2]at hls;obtain⟨x,rfl,wx,rfl⟩:=Wu ha h1;obtain⟨y,rfl,wy,rfl⟩:=Wu hb h2;simp at hls;subst hls;exact⟨(x,y),⟨wx,wy⟩,rfl,rfl⟩
  ·cases h
section
variable {H:Type} {P:Program} {K T E:TypeId} {R:Value->Option (DataW H×List MemPlace)}
def cj(P:Program)(K:TypeId)(R:Value->Option (DataW H×List MemPlace))(u:DataW H)(b n:Nat)(X:au->Prop)(w:World):Prop:=
 ∃D:DataW H,w.ownsMap P K R b n D/\∀x,dY x->(X x/\∀z,D.atKey (ik x) z=u)\/(¬X x/\∀z,D.atKey (ik x) z=z)
theorem cj.made(w:World)(P)(K)(R)(u:DataW H):cj P K R u w.heap.size 0 (fun _=>False) (w.alloc (.map #[] 0)):=
 ⟨_,World.ownsMap_made w P K R,fun x _=> .inr ⟨id,fun z=>rfl⟩⟩
theorem cj.lt{u}{b n}{X}{w}(h:cj P K R u b n X w):b<w.heap.size:=by
 obtain⟨D,h,_⟩:=h;exact h.lt
theorem cj.mono{u}{b n n'}{X}{w}(h:cj P K R u b n X w)(hn:n<=n'):cj P K R u b n' X w:=by
 obtain⟨D,h,k⟩:=h;exact⟨D,h.mono hn,k⟩
theorem cj.iff{u}{b n}{X Y}{w}(h:cj P K R u b n X w)(e:∀x,dY x->(X x↔Y x)):cj P K R u b n Y w:=by
 obtain⟨D,h,k⟩:=h;exact⟨D,h,fun x hx=>(k x hx).imp (fun q=>⟨(e x hx).1 q.1,q.2⟩) (fun q=>⟨fun y=>q.1 ((e x hx).2 y),q.2⟩)⟩
theorem cj.keep{u}{b n}{X}{w w'}(h:cj P K R u b n X w)(hb:w'.heap[b]?=w.heap[b]?):cj P K R u b n X w':=by
 obtain⟨D,⟨es,clock,h1,h2⟩,k⟩:=h;exact⟨D,⟨es,clock,hb.trans h1,h2⟩,k⟩
theorem cj.went{u}{b n}{X}{w w'}(h:cj P K R u b n X w)(hb:Below w.heap.size w w'):cj P K R u b n X w':=h.keep (hb.block b h.lt)
theorem cj.look_ok{u}{b n}{X}{w}(h:cj P K R u b n X w)(k:Kt P K)(ht:P.underlying T=some (.map K E)){z}(hz:(zeroValue E).run P w=.ok z w){zd}{zp}(hzd:R z=some (zd,zp)){x}(hx:dY x):
  ∃(c:Bool) (v:Value) (ps:List MemPlace),(c=true↔X x)/\(Instr.lookup T (.map (some b)) (iv x) true).run P w=.ok (.tuple #[v,.bool c]) w/\R v=some (if c then u else zd,ps):=by
 obtain⟨D,ho,kd⟩:=h;obtain⟨v,ps,hrun,hR⟩:=ho.look_ok k.law ht hz hzd (k.key x hx);rcases kd x hx with⟨q,hat⟩|⟨q,hat⟩
 ·rw[Maps.has_true_of_atKey hat]at hrun;exact⟨true,v,ps,⟨fun _=>q,fun _=>rfl⟩,hrun,by rw[hR,hat];rfl⟩
 ·rw[Maps.has_false_of_atKey hat]at hrun;exact⟨false,v,ps,⟨fun e=>Bool.noConfusion e,fun e=>absurd e q⟩,hrun,by rw[hR,hat];rfl⟩
theorem cj.store{u}{b n}{X}{w}(h:cj P K R u b n X w)(k:Kt P K)(ht:P.underlying T=some (.map K E))(hn:n<maxLen){v}{ps}(hv:R v=some (u,ps)){x}(hx:dY x):
  ∃w',(Instr.mapUpdate T (.map (some b)) (iv x) v).run P w=.ok () w'/\cj P K R u b (n+1) (fun y=>X y\/y=x) w'/\w.mapTurned w' b:=by
 obtain⟨D,ho,kd⟩:=h;obtain⟨w',hrun,h1,h2⟩:=ho.store k.law ht hn (k.key x hx) hv;refine⟨w',hrun,⟨_,h1,fun y hy=>?_⟩,h2⟩
 by_cases e:y=x
 ·subst e;exact .inl ⟨.inr rfl,fun z=>Maps.atKey_put_same ho.isMap (k.law.key (k.key y hy)) u z⟩
 ·have hne:ik y≠ik x:=fun q=>e (Oz hy hx q)
  rcases kd y hy with⟨q,hat⟩|⟨q,hat⟩
  ·exact .inl ⟨.inl q,fun z=>(Maps.atKey_put_other hne u z).trans (hat z)⟩
  ·exact .inr ⟨fun r=>r.elim q e,fun z=>(Maps.atKey_put_other hne u z).trans (hat z)⟩
theorem zIr{o:Oper}{a}{K'}{Q}(w)(m y)(hop:o.op=Op.lookup T m y true)(k:Kt P K)(ht:P.underlying T=some (.map K E))
  (hz:(zeroValue E).run P w=.ok (.agg #[]) w) (b n) (X) (hm:a.eval m=.map (some b)) (h:cj (H:=H) P K unitElem (.agg []) b n X w) (x) (hy:a.eval y=iv x) (hx:dY x)
  (hK:∀c:Bool,(c=true↔X x)->K' (a.put o.dst (.tuple #[.agg #[],.bool c])) w):o.wp P a w K' Q:=by
 obtain⟨c,v,ps,hc,hrun,hR⟩:=h.look_ok k ht hz unitElem_mk hx;obtain⟨rfl,_⟩:=unitElem_inv hR;unfold Oper.wp;simp[execOp,hop,hm,hy,hrun,Result.andThen];exact hK c hc
theorem zJr{o:Oper}{a}{K'}{Q}(w)(m y v)(hop:o.op=Op.mapUpdate T m y v)(k:Kt P K)(ht:P.underlying T=some (.map K E))
  (u) (b n) (X) (hm:a.eval m=.map (some b)) (h:cj P K R u b n X w) (hn:n<maxLen) (x) (hy:a.eval y=iv x) (hx:dY x) (ps) (hv:R (a.eval v)=some (u,ps))
  (hK:∀w',cj P K R u b (n+1) (fun y=>X y\/y=x) w'->w.mapTurned w' b->K' (a.put o.dst undef) w'):o.wp P a w K' Q:=by
 obtain⟨w',hrun,h1,h2⟩:=h.store k ht hn hv hx;unfold Oper.wp;simp[execOp,hop,hm,hy,hrun,Result.andThen];exact hK w' h1 h2
theorem Tx{ops}{rest}{o}{a}{w}{Q}(hg:o.guard=none)(h:∀K':Act->World->Prop,(∀a' w',wpList P ops Q rest a' w'->K' a' w')->o.wp P a w K' Q):wpList P ops Q (o::rest) a w:=
 wpList_plain hg fun K' hK=>h K' hK
end
end Im
namespace Im
open Gr (ai checkN lM jv wH jN dD rF nN nK)
theorem rH{G}(h:jv G=false):G.rules.length<=300/\∀r∈G.rules,r.2.length<=8:=by
 unfold jv at h;simp only[Bool.or_eq_false_iff,decide_eq_false_iff_not,List.any_eq_false,decide_eq_true_eq]at h;exact⟨by omega,fun r hr=>by have:=h.2 r hr;omega⟩
theorem D7{G}(h:checkN G=0){r}(hr:r<=G.rules.length):cQ G (r:Int)<=8:=by
 have hm:=rH (lM h).1;unfold cQ
 by_cases e:r=G.rules.length
 ·subst e;rw[(nK G).2];simp
 ·have hr':r<G.rules.length:=by omega
  rw[(nN hr').2];exact hm.2 _ (List.getElem_mem hr')
theorem se{G}(h:checkN G=0):(allI G).length<=2709:=by
 have h1:=zSo (G:=G) (B:=8) fun r hr=>D7 h hr
 have h2:=(rH (lM h).1).1;have h3:(G.rules.length+1)*(8+1)<=301*9:=Nat.mul_le_mul (by omega) (by omega);omega
theorem Mr{G}(h:checkN G=0){x}(hx:bo G x=true):0<=x.1/\x.1<=300/\0<=x.2/\x.2<=8:=by
 obtain⟨⟨h1,h2⟩,h3,h4⟩:=iD.1 hx;have hm:=(rH (lM h).1).1;obtain⟨r,hr⟩:=Int.eq_ofNat_of_zero_le h1;have:=D7 h (r:=r) (by omega);rw[hr]at h4;omega
theorem V5{n}(h: -1000<=n)(k:n<=1000):(Lit.int .i64 n).wf=true:=by
 simp only[Lit.wf,IntKind.min,IntKind.max,IntKind.signed,IntKind.bits,Bool.and_eq_true,decide_eq_true_eq,if_true];omega
theorem Ee{G}(h:checkN G=0){x}(hx:bo G x=true):dY x:=by
 have:=Mr h hx;exact⟨V5 (by omega) (by omega),V5 (by omega) (by omega)⟩
theorem zNj{G}(h:checkN G=0):dD G 0=[]:=by
 rw[List.eq_nil_iff_forall_not_mem];intro r hr;obtain⟨h1,h2⟩:=rF.1 hr;have:=jN.1 (wH (lM h).2.2.2.1 h1);omega
theorem zQb{G}(h:checkN G=0){x}(hx:¬aZ G x=true):dD G (aQ G x)=[]:=by
 unfold aQ;rw[if_neg hx];exact zNj h
theorem zMs{G}{x y z}(h:cM G [x] y)(k:cM G [y] z):cM G [x] z:=by
 induction k with
 |of h1 h2=>
  rw[List.mem_singleton]at h1;subst h1;exact h
 |next _ h2 h3 ih=>exact .next ih h2 h3
theorem VI{G}{x}(h:bo G x=true):cM G [x] x:=.of (List.mem_singleton.2 rfl) h
theorem zS2{G}{x}(h:bo G x=true){r}(hr:r∈dD G (aQ G x))(hv:checkN G=0):cM G [x] ((r:Int),0):=by
 by_cases hb:aZ G x=true
 ·exact .next (VI h) hb hr
 ·rw[zQb hv hb]at hr;cases hr
structure mV (G:ai) (X:au->Prop) (x:au) (Y:au->Prop):Prop where
 old:∀y,X y->Y y
 own:Y x
 new:∀y,Y y->X y\/cM G [x] y
 shut:∀y,Y y->¬X y->∀r∈dD G (aQ G y),Y ((r:Int),0)
theorem mV.none{G}{X Y}{x}(h:X x)(e:∀y,Y y↔X y\/y=x):mV G X x Y:=by
 have e':∀y,Y y↔X y:=fun y=>(e y).trans ⟨fun k=>k.elim id fun k=>k▸h,.inl⟩
 exact⟨fun y hy=>(e' y).2 hy,(e' x).2 h,fun y hy=> .inl ((e' y).1 hy),fun y hy hn=>absurd ((e' y).1 hy) hn⟩
structure Part (G:ai) (X:au->Prop) (x:au) (K:List Nat) (j:Nat) (Z:au->Prop):Prop where
 old:∀y,X y->Z y
 own:Z x
 new:∀y,Z y->X y\/cM G [x] y
 kids:∀i (h:i<K.length),i<j->Z ((K[i]:Int),0)
 shut:∀y,Z y->¬X y->y≠x->∀r∈dD G (aQ G y),Z ((r:Int),0)
theorem Part.start{G}{X Z}{x}{K}(hr:bo G x=true)(e:∀y,Z y↔X y\/y=x):Part G X x K 0 Z:=
 ⟨fun y hy=>(e y).2 (.inl hy),(e x).2 (.inr rfl),fun y hy=>((e y).1 hy).imp id fun k=>by rw[k];exact VI hr,fun i _ hi=>by omega,fun y hy hn hne=>absurd ((e y).1 hy) fun k=>k.elim hn hne⟩
theorem Part.step{G}{X Z Y}{x}{j}(hv:checkN G=0)(hr:bo G x=true)(p:Part G X x (dD G (aQ G x)) j Z)(hj)(s:mV G Z (((dD G (aQ G x))[j]:Int),0) Y):Part G X x (dD G (aQ G x)) (j+1) Y:=by
 refine⟨fun y hy=>s.old y (p.old y hy),s.old x p.own,fun y hy=>?_,fun i hi hij=>?_,fun y hy hn hne r hk=>?_⟩
 ·rcases s.new y hy with k|k
  ·exact p.new y k
  ·exact .inr (zMs (zS2 hr (List.getElem_mem hj) hv) k)
 ·by_cases e:i=j
  ·subst e;exact s.own
  ·exact s.old _ (p.kids i hi (by omega))
 ·rcases Classical.em (Z y)with k|k
  ·exact s.old _ (p.shut y k hn hne r hk)
  ·exact s.shut y hy k r hk
theorem Part.done{G}{X Z}{x}(p:Part G X x (dD G (aQ G x)) (dD G (aQ G x)).length Z):mV G X x Z:=by
 refine⟨p.old,p.own,p.new,fun y hy hn r hk=>?_⟩
 by_cases e:y=x
 ·subst e;obtain⟨i,hi,e⟩:=List.getElem_of_mem hk;rw[←e];exact p.kids i hi hi
 ·exact p.shut y hy hn e r hk
theorem Part.right{G}{X Z}{x}{K}{j}(p:Part G X x K j Z)(h:∀y,X y->bo G y=true)(y)(hy:Z y):bo G y=true:=(p.new y hy).elim (h y) oF
structure Way (G:ai) (L:List au) (Lf Z:au->Prop):Prop where
 sub:∀y,Z y->cM G L y
 met:∀y,y∈L->bo G y=true->¬Lf y->Z y
 shut:∀y,Z y->∀r∈dD G (aQ G y),Z ((r:Int),0)
theorem Way.start{G}{L}{X Z}(hX:∀y,y∈L->bo G y=true->X y)(hz:∀y,¬Z y):Way G L X Z:=
 ⟨fun y hy=>absurd hy (hz y),fun y h1 h2 h3=>absurd (hX y h1 h2) h3,fun y hy=>absurd hy (hz y)⟩
theorem Way.step{G}{L}{Lf Z Y}{x}(p:Way G L Lf Z)(hx:x∈L)(hr:bo G x=true)(s:mV G Z x Y):Way G L (fun y=>Lf y/\y≠x) Y:=by
 refine⟨fun y hy=>?_,fun y h1 h2 h3=>?_,fun y hy r hk=>?_⟩
 ·rcases s.new y hy with k|k
  ·exact p.sub y k
  ·exact zPs (fun z hz=>by rw[List.mem_singleton]at hz;rw[hz];exact hx) k
 ·by_cases e:y=x
  ·rw[e];exact s.own
  ·exact s.old y (p.met y h1 h2 fun k=>h3 ⟨k,e⟩)
 ·rcases Classical.em (Z y)with k|k
  ·exact s.old _ (p.shut y k r hk)
  ·exact s.shut y hy k r hk
theorem Way.done{G}{L}{Lf Z}(p:Way G L Lf Z)(h:∀y,y∈L->bo G y=true->¬Lf y)(y):Z y↔cM G L y:=by
 refine⟨p.sub y,fun k=>?_⟩
 induction k with
 |of h1 h2=>exact p.met _ h1 h2 (h _ h1 h2)
 |next _ h2 h3 ih=>exact p.shut _ ih _ h3
theorem Way.right{G}{L}{Lf Z}(p:Way G L Lf Z)(y)(hy:Z y):bo G y=true:=oF (p.sub y hy)
end Im
namespace Au
open Gr (ai)
open Im
theorem zUR(G):iG (allI G):=by
 unfold iG allI;rw[List.pairwise_flatMap];refine⟨fun r _=>?_,?_⟩
 ·rw[List.pairwise_map];refine List.pairwise_lt_range.imp fun {a b} h=>?_
  refine .inr ⟨rfl,?_⟩;dsimp only;omega
 ·refine List.pairwise_lt_range.imp fun {a b} h=>?_
  intro x hx y hy;obtain⟨_,_,rfl⟩:=List.mem_map.1 hx;obtain⟨_,_,rfl⟩:=List.mem_map.1 hy;refine .inl ?_;dsimp only;omega
open Classical in
noncomputable def Iz(G:ai)(P:au->Prop):List au:=(allI G).filter fun x=>decide (P x)
open Classical in
theorem XE{G}{P}(h:∀x,P x->bo G x=true):Is (Iz G P) P:=by
 refine⟨(zUR G).sublist List.filter_sublist,fun x=>?_⟩;unfold Iz;rw[List.mem_filter];exact⟨fun q=>of_decide_eq_true q.2,fun q=>⟨uC (h x q),decide_eq_true q⟩⟩
noncomputable def fH(G:ai)(L:List au):List au:=Iz G (cM G L)
noncomputable def cd(G:ai)(L:List au)(s:Int):List au:=Iz G (E6 G L s)
theorem sQ(G)(L):Is (fH G L) (cM G L):=XE fun x=>oF
theorem rN(G)(L)(s):Is (cd G L s) (E6 G L s):=XE fun x h=>(GP h).1
abbrev Half:=List (List au)×List (Int×Int)
noncomputable def gW(G:ai)(c:List au)(s:Nat)(p:Half):Half:=
 if cd G c s=[]then p else(if cd G c s∈p.1 then p.1 else p.1++[cd G c s],p.2++[((s:Int),((p.1++[cd G c s]).idxOf (cd G c s):Int))])
noncomputable def mQ(G:ai)(c:List au):Nat->Half->Half
 |0,p=>p
 |n+1,p=>gW G c (n+1) (mQ G c n p)
theorem DZ(G)(c)(n)(p):mQ G c (n+1) p=gW G c (n+1) (mQ G c n p):=rfl
theorem Vn{G}{c}{s:Nat}{p}(h:cd G c s=[]):gW G c s p=p:=if_pos h
theorem zRB{G}{c}{s:Nat}{p}(h:cd G c s≠[])(k:cd G c s∈p.1):gW G c s p=(p.1,p.2++[((s:Int),(p.1.idxOf (cd G c s):Int))]):=by
 unfold gW;rw[if_neg h,if_pos k,List.idxOf_append,if_pos k]
theorem zRA{G}{c}{s:Nat}{p}(h:cd G c s≠[])(k:cd G c s∉p.1):gW G c s p=(p.1++[cd G c s],p.2++[((s:Int),(p.1.length:Int))]):=by
 unfold gW;rw[if_neg h,if_neg k,List.idxOf_append,if_neg k];simp
abbrev Whole:=List (List au)×List (List (Int×Int))
noncomputable def nz(G:ai)(top:Nat)(q:Whole):Whole:=
 match q.1[q.2.length]? with
 |none=>q
 |some L=>((mQ G (fH G L) top (q.1,[])).1,q.2++[(mQ G (fH G L) top (q.1,[])).2])
noncomputable def runs(G:ai)(top:Nat):Nat->Whole
 |0=>([[((G.rules.length:Int),0)]],[])
 |n+1=>nz G top (runs G top n)
theorem Ik{G}{top}{q}(h):nz G top q=((mQ G (fH G q.1[q.2.length]) top (q.1,[])).1,q.2++[(mQ G (fH G q.1[q.2.length]) top (q.1,[])).2]):=by
 unfold nz;rw[List.getElem?_eq_getElem h]
noncomputable def jS(G:ai)(ks:List (List au))(c:List au)(n:Nat):List (Int×Int):=
 (List.range n).filterMap fun i=>if cd G c ((i+1:Nat):Int)=[]then none else some (((i+1:Nat):Int),(ks.idxOf (cd G c ((i+1:Nat):Int)):Int))
theorem yo(G)(ks)(c)(n):jS G ks c (n+1)=jS G ks c n++(if cd G c ((n+1:Nat):Int)=[]then[]else[(((n+1:Nat):Int),(ks.idxOf (cd G c ((n+1:Nat):Int)):Int))]):=by
 unfold jS;rw[List.range_succ,List.filterMap_append]
 congr 1
 by_cases h:cd G c ((n+1:Nat):Int)=[]
 ·simp only[List.filterMap_cons,List.filterMap_nil,if_pos h]
 ·simp only[List.filterMap_cons,List.filterMap_nil,if_neg h]
theorem Ud{G}{ks}{c}{n}(more)(h:∀i,i<n->cd G c ((i+1:Nat):Int)≠[]->cd G c ((i+1:Nat):Int)∈ks):jS G (ks++more) c n=jS G ks c n:=by
 induction n with
 |zero=>rfl
 |succ n ih=>
  rw[yo,yo,ih fun i hi=>h i (by omega)]
  by_cases k:cd G c ((n+1:Nat):Int)=[]
  ·rw[if_pos k,if_pos k]
  ·rw[if_neg k,if_neg k,List.idxOf_append,if_pos (h n (by omega) k)]
structure gL (G:ai) (c:List au) (ks:List (List au)) (n:Nat) (p:Half):Prop where
 front:∃more,p.1=ks++more/\∀k∈more,∃i,i<n/\k=cd G c ((i+1:Nat):Int)/\k≠[]
 nodup:p.1.Nodup
 here:∀i,i<n->cd G c ((i+1:Nat):Int)≠[]->cd G c ((i+1:Nat):Int)∈p.1
 trans:p.2=jS G p.1 c n
theorem gL.start{G}{c}{ks}(h:ks.Nodup):gL G c ks 0 (ks,[]):=
 ⟨⟨[],by simp,fun k hk=>by cases hk⟩,h,fun i hi=>by omega,rfl⟩
theorem gL.next{G}{c}{ks}{n}{p}(h:gL G c ks n p):gL G c ks (n+1) (gW G c (n+1) p):=by
 obtain⟨more,e,hm⟩:=h.front
 by_cases h0:cd G c ((n+1:Nat):Int)=[]
 ·rw[Vn h0];refine⟨⟨more,e,fun k hk=>?_⟩,h.nodup,fun i hi hn=>?_,?_⟩
  ·obtain⟨i,h1,h2⟩:=hm k hk;exact⟨i,by omega,h2⟩
  ·by_cases q:i=n
   ·subst q;exact absurd h0 hn
   ·exact h.here i (by omega) hn
  ·rw[yo,if_pos h0,List.append_nil];exact h.trans
 ·by_cases h1:cd G c ((n+1:Nat):Int)∈p.1
  ·rw[zRB h0 h1];refine⟨⟨more,e,fun k hk=>?_⟩,h.nodup,fun i hi hn=>?_,?_⟩
   ·obtain⟨i,h1,h2⟩:=hm k hk;exact⟨i,by omega,h2⟩
   ·by_cases q:i=n
    ·subst q;exact h1
    ·exact h.here i (by omega) hn
   ·rw[yo,if_neg h0,←h.trans]
  ·rw[zRA h0 h1];refine⟨⟨more++[cd G c ((n+1:Nat):Int)],by dsimp only;rw[e,List.append_assoc],fun k hk=>?_⟩,?_,fun i hi hn=>?_,?_⟩
   ·rcases List.mem_append.1 hk with hk|hk
    ·obtain⟨i,h1,h2⟩:=hm k hk;exact⟨i,by omega,h2⟩
    ·rw[List.mem_singleton]at hk;exact⟨n,by omega,hk,by rw[hk];exact h0⟩
   ·dsimp only;rw[List.nodup_append];refine⟨h.nodup,by simp,fun x hx y hy q=>?_⟩;rw[List.mem_singleton]at hy;subst hy;subst q;exact h1 hx
   ·by_cases q:i=n
    ·subst q;exact List.mem_append.2 (.inr (List.mem_singleton.2 rfl))
    ·exact List.mem_append.2 (.inl (h.here i (by omega) hn))
   ·dsimp only;rw[yo,if_neg h0,Ud _ h.here,←h.trans,List.idxOf_append,if_neg h1];simp
theorem Nc{G}{c}{ks}(h:ks.Nodup):∀n,gL G c ks n (mQ G c n (ks,[]))
 |0=> .start h
 |n+1=>(Nc h n).next
end Au
namespace Au
open Gr (ai)
open Im
def bp(ks:List (List au))(i:Nat):List au:=ks.getD i []
theorem yn{ks more}{i}(h:i<ks.length):bp (ks++more) i=bp ks i:=by
 unfold bp;rw[List.getD_eq_getElem?_getD,List.getD_eq_getElem?_getD,List.getElem?_append_left h]
theorem wJ{ks}{i}(h):bp ks i=ks[i]:=by
 unfold bp;rw[List.getD_eq_getElem?_getD,List.getElem?_eq_getElem h]
 rfl
theorem ux{ks}{i}(h:i<ks.length):bp ks i∈ks:=by
 rw[wJ h];exact List.getElem_mem h
theorem Yz{ks}{k}(h:k∈ks):ks.idxOf k<ks.length/\bp ks (ks.idxOf k)=k:=by
 have h1:=List.idxOf_lt_length_of_mem h;refine⟨h1,?_⟩;rw[wJ h1];exact List.getElem_idxOf h1
structure cZ (G:ai) (top:Nat) (q:Whole):Prop where
 le:q.2.length<=q.1.length
 pos:0<q.1.length
 nodup:q.1.Nodup
 zero:bp q.1 0=[((G.rules.length:Int),0)]
 good:∀k∈q.1,k≠[]/\iG k/\∀x∈k,bo G x=true
 trans:∀i,i<q.2.length->q.2.getD i []=jS G q.1 (fH G (bp q.1 i)) top
 here:∀i,i<q.2.length->∀s,s<top->cd G (fH G (bp q.1 i)) ((s+1:Nat):Int)≠[]->cd G (fH G (bp q.1 i)) ((s+1:Nat):Int)∈q.1
 early:∀t,0<t->t<q.1.length->∃i s,i<t/\i<q.2.length/\s<top/\bp q.1 t=cd G (fH G (bp q.1 i)) ((s+1:Nat):Int)
theorem cZ.start(G)(top):cZ G top (runs G top 0):=by
 refine⟨by simp[runs],by simp[runs],by simp[runs],rfl,fun k hk=>?_,fun i hi=>by simp[runs]at hi,fun i hi=>by simp[runs]at hi,fun t h1 h2=>?_⟩
 ·simp only[runs,List.mem_singleton]at hk;subst hk;refine⟨by simp,ED _,fun x hx=>?_⟩;rw[List.mem_singleton]at hx;subst hx;exact wC (Nat.le_refl _)
 ·simp only[runs,List.length_cons,List.length_nil]at h2;omega
theorem cZ.next{G}{top}{q}(h:cZ G top q):cZ G top (nz G top q):=by
 by_cases hq:q.2.length<q.1.length
 ·rw[Ik hq,←wJ hq];have H:=Nc (G:=G) (c:=fH G (bp q.1 q.2.length)) h.nodup top;generalize mQ G (fH G (bp q.1 q.2.length)) top (q.1,[])=p at H;obtain⟨more,e,hm⟩:=H.front;have hl:q.1.length<=p.1.length:=by rw[e,List.length_append];omega
  refine⟨by dsimp only;rw[List.length_append];simp;omega,by have:=h.pos;dsimp only;omega,H.nodup,?_,fun k hk=>?_,fun i hi=>?_,fun i hi s hs hn=>?_,fun t h1 h2=>?_⟩
  ·dsimp only;rw[e,yn h.pos];exact h.zero
  ·dsimp only at hk;rw[e]at hk;rcases List.mem_append.1 hk with hk|hk
   ·exact h.good k hk
   ·obtain⟨i,_,h1,h2⟩:=hm k hk;have hs:=rN G (fH G (bp q.1 q.2.length)) ((i+1:Nat):Int);rw[←h1]at hs;exact⟨h2,hs.1,fun x hx=>(GP ((hs.2 x).1 hx)).1⟩
  ·dsimp only at hi⊢;rw[List.length_append,List.length_singleton]at hi
   by_cases k:i<q.2.length
   ·rw[List.getD_eq_getElem?_getD,List.getElem?_append_left k,←List.getD_eq_getElem?_getD,h.trans i k,e,yn (by omega),Ud more fun s hs hn=>h.here i k s hs hn]
   ·obtain rfl:i=q.2.length:=by omega
    rw[List.getD_eq_getElem?_getD,List.getElem?_append_right (Nat.le_refl _)];simp only[Nat.sub_self,List.getElem?_cons_zero,Option.getD_some];rw[H.trans,show bp p.1 q.2.length=bp q.1 q.2.length from by rw[e,yn hq]]
  ·dsimp only at hi hn⊢;rw[List.length_append,List.length_singleton]at hi;have hi':i<q.1.length:=by omega
   rw[show bp p.1 i=bp q.1 i from by rw[e,yn hi']]at hn⊢
   by_cases k:i<q.2.length
   ·rw[e];exact List.mem_append.2 (.inl (h.here i k s hs hn))
   ·obtain rfl:i=q.2.length:=by omega
    exact H.here s hs hn
  ·dsimp only at h2⊢
   by_cases k:t<q.1.length
   ·obtain⟨i,s,a1,a2,a3,a4⟩:=h.early t h1 k;refine⟨i,s,a1,by rw[List.length_append];omega,a3,?_⟩;rw[e,yn k,yn (by omega)];exact a4
   ·have hmem:bp p.1 t∈more:=by
     rw[wJ h2];simp only[e,List.getElem_append_right (Nat.le_of_not_lt k)];exact List.getElem_mem _
    obtain⟨s,a1,a2,_⟩:=hm _ hmem;refine⟨q.2.length,s,by omega,by rw[List.length_append];simp,a1,?_⟩;rw[a2,e,yn hq]
 ·unfold nz;rw[List.getElem?_eq_none (by omega)];exact h
theorem Ez(G)(top):∀n,cZ G top (runs G top n)
 |0=> .start G top
 |n+1=>(Ez G top n).next
theorem zUJ{G}{top}{q}(h:q.2.length<q.1.length):(nz G top q).2.length=q.2.length+1:=by
 rw[Ik h];simp
theorem WX{G}{top}:∀{n:Nat},(∀m,m<n->(runs G top m).2.length<(runs G top m).1.length)->(runs G top n).2.length=n
 |0,_=>rfl
 |n+1,h=>by
  show(nz G top (runs G top n)).2.length=n+1;rw[zUJ (h n (by omega)),WX fun m hm=>h m (by omega)]
theorem rA{G}{ks}{c}{n}{s t}:(s,t)∈jS G ks c n↔∃i,i<n/\s=((i+1:Nat):Int)/\cd G c s≠[]/\t=(ks.idxOf (cd G c s):Int):=by
 unfold jS;rw[List.mem_filterMap];constructor
 ·rintro⟨i,hi,h⟩;split at h
  ·cases h
  ·rename_i hn;injection h with h
   injection h with h1 h2
   subst h1;exact⟨i,List.mem_range.1 hi,rfl,hn,h2.symm⟩
 ·rintro⟨i,hi,rfl,hn,rfl⟩;exact⟨i,List.mem_range.2 hi,if_neg hn⟩
def leads(tr:List (Int×Int))(s:Int):Int:=((tr.find? fun x=>decide (x.1=s)).map (·.2)).getD (-1)
theorem TU{G}{ks}{c}{n i}(hi:i<n)(hn:cd G c ((i+1:Nat):Int)≠[]):leads (jS G ks c n) ((i+1:Nat):Int)=(ks.idxOf (cd G c ((i+1:Nat):Int)):Int):=by
 unfold leads
 have key:∀x∈jS G ks c n,decide (x.1=((i+1:Nat):Int))=true->x.2=(ks.idxOf (cd G c ((i+1:Nat):Int)):Int):=by
  rintro⟨s,t⟩ hx hd;obtain⟨j,hj,h1,h2,h3⟩:=rA.1 hx;have hd':s=((i+1:Nat):Int):=of_decide_eq_true hd;dsimp only;rw[←hd'];exact h3
 have hm:((((i+1:Nat):Int),(ks.idxOf (cd G c ((i+1:Nat):Int)):Int)):Int×Int)∈jS G ks c n:=rA.2 ⟨i,hi,rfl,hn,rfl⟩;cases hf:(jS G ks c n).find? fun x=>decide (x.1=((i+1:Nat):Int))with
 |none=>
  have:=List.find?_eq_none.1 hf _ hm;simp at this
 |some x=>exact key x (List.mem_of_find?_eq_some hf) (List.find?_some (p:=fun x:Int×Int=>decide (x.1=((i+1:Nat):Int))) hf)
end Au
namespace Au
open Gr (ai checkN lM ax cN top iE nN nK jN)
open Im
def Stop(q:Whole):Prop:=2000<q.1.length\/q.2.length=q.1.length
def sM(G:ai)(n:Nat):Prop:=Stop (runs G (top G) n)/\∀m,m<n->¬Stop (runs G (top G) m)
theorem sM.uniq{G}{n m}(h:sM G n)(k:sM G m):n=m:=by
 rcases Nat.lt_trichotomy n m with q|q|q
 ·exact absurd h.1 (k.2 n q)
 ·exact q
 ·exact absurd k.1 (h.2 m q)
theorem uA{G}(hv:checkN G=0){r}(hr:cN G r=true){d}(hd:d<(ax G r).2.length):1<=(ax G r).2[d]/\(ax G r).2[d]<=(top G:Int):=by
 have hk:=(lM hv).2.2.2.1
 have hb:0<=r/\r<=(G.rules.length:Int):=by
  unfold cN at hr;exact of_decide_eq_true hr
 obtain⟨i,rfl⟩:=Int.eq_ofNat_of_zero_le hb.1;simp only[iE,Bool.and_eq_true,List.all_eq_true,decide_eq_true_eq]at hk
 by_cases e:i=G.rules.length
 ·subst e;have h2:=(nK G).2;have h3:=jN.1 hk.1;have e1:(ax G ((G.rules.length:Nat):Int)).2=[G.start]:=by rw[h2]
  have e0:(ax G ((G.rules.length:Nat):Int)).2[d]=G.start:=by
   have:d=0:=by rw[e1]at hd;simp at hd;omega
   subst this;simp only[e1,List.getElem_cons_zero]
  rw[e0];unfold top;omega
 ·have hi:i<G.rules.length:=by omega
  have h2:=(nN hi).2;have hm:=(hk.2 _ (List.getElem_mem hi)).2;have hin:(ax G (i:Int)).2[d]∈(ax G (i:Int)).2:=List.getElem_mem hd;have e1:(ax G (i:Int)).2=(G.rules[i]).2:=by rw[h2]
  rw[←e1]at hm;exact hm _ hin
theorem si{G}{r}{d}(hr:cN G r=true)(hd:d<(ax G r).2.length):aZ G (r,(d:Int))=true/\aQ G (r,(d:Int))=(ax G r).2[d]:=by
 have hb:aZ G (r,(d:Int))=true:=by
  rw[kx];refine⟨?_,by unfold cQ;dsimp only;omega⟩;unfold bo cQ;rw[hr,Bool.true_and,decide_eq_true_iff];dsimp only;omega
 refine⟨hb,?_⟩;unfold aQ;rw[if_pos hb];simp[hd]
def NK(G:ai)(s:Int)(x:au):Prop:=cN G x.1=true/\1<=x.2/\x.2<=(cQ G x.1:Int)/\(ax G x.1).2.getD (x.2-1).toNat 0=s
theorem zJi{G}{L}{s}{x}(h:E6 G L s x):NK G s x:=by
 obtain⟨y,_,h1,h2,rfl⟩:=h;obtain⟨h3,h4⟩:=kx.1 h1;obtain⟨h5,h6⟩:=iD.1 h3;refine⟨?_,by dsimp only;omega,by dsimp only;omega,?_⟩
 ·unfold cN;exact decide_eq_true h5
 ·unfold aQ at h2;rw[if_pos h1]at h2;dsimp only;rw[show(y.2+1-1).toNat=y.2.toNat from by congr 1;omega];exact h2
structure Done (G:ai) (q:Whole):Prop where
 ok:cZ G (top G) q
 all:q.2.length=q.1.length
theorem Done.to{G}{q}(h:Done G q){k}(hk:k<q.1.length){s t}(hm:(s,t)∈q.2.getD k []):∃n:Nat,t=(n:Int)/\n<q.1.length/\bp q.1 n=cd G (fH G (bp q.1 k)) s:=by
 have hl:k<q.2.length:=by rw[h.all];exact hk
 rw[h.ok.trans k hl]at hm;obtain⟨i,hi,rfl,hn,rfl⟩:=rA.1 hm;have:=Yz (h.ok.here k hl i hi hn);exact⟨_,rfl,this.1,this.2⟩
theorem Done.enters{G}{q}(h:Done G q){k}(hk:k<q.1.length){s t}(hm:(s,t)∈q.2.getD k []):∃n:Nat,t=(n:Int)/\n<q.1.length/\∀x∈bp q.1 n,NK G s x:=by
 obtain⟨n,h1,h2,h3⟩:=h.to hk hm;refine⟨n,h1,h2,fun x hx=>?_⟩;rw[h3]at hx;exact zJi (((rN _ _ _).2 x).1 hx)
theorem Done.early{G}{q}(h:Done G q){t}(h0:0<t)(ht:t<q.1.length):∃k s,k<t/\(s,(t:Int))∈q.2.getD k []:=by
 obtain⟨k,i,h1,h2,h3,h4⟩:=h.ok.early t h0 ht;refine⟨k,((i+1:Nat):Int),h1,?_⟩;rw[h.ok.trans k h2];refine rA.2 ⟨i,h3,rfl,?_,?_⟩
 ·rw[←h4];exact(h.ok.good _ (ux ht)).1
 ·rw[←h4,wJ ht]
  congr 1
  exact(h.ok.nodup.idxOf_getElem t ht).symm
theorem Done.some{G}{q}(h:Done G q){t}(ht:t<q.1.length):bp q.1 t≠[]:=(h.ok.good _ (ux ht)).1
def wR(n:Nat)(ts:List (List (Int×Int)))(i s:Int):Int:=if 0<=i/\i<(n:Int)then leads (ts.getD i.toNat []) s else-1
def qc(n:Nat)(ts:List (List (Int×Int)))(i:Int):List Int->Int
 |[]=>if 0<=i/\i<(n:Int)then i else-1
 |s::way=>if 0<=i/\i<(n:Int)then qc n ts (wR n ts i s) way else-1
theorem walk_nil{n}{ts}{i}(h:i<n):qc n ts (i:Int) []=(i:Int):=by
 unfold qc;rw[if_pos ⟨by omega,by omega⟩]
theorem zPR{n}{ts}{i}(h:i<n)(s)(way):qc n ts (i:Int) (s::way)=qc n ts (leads (ts.getD i []) s) way:=by
 show(if 0<=(i:Int)/\(i:Int)<(n:Int)then qc n ts (wR n ts i s) way else-1)= _;rw[if_pos ⟨by omega,by omega⟩];unfold wR;rw[if_pos ⟨by omega,by omega⟩,Int.toNat_natCast]
theorem Done.one{G}{q}(h:Done G q)(hv:checkN G=0){i}(hi:i<q.1.length){r}{d}(hr:cN G r=true)(hd:d<(ax G r).2.length)(hx:(r,(d:Int))∈fH G (bp q.1 i)):
  ∃j:Nat,j<q.1.length/\leads (q.2.getD i []) (ax G r).2[d]=(j:Int)/\(r,((d+1:Nat):Int))∈bp q.1 j:=by
 obtain⟨b1,b2⟩:=si hr hd;obtain⟨s1,s2⟩:=uA hv hr hd;have hl:i<q.2.length:=by rw[h.all];exact hi
 obtain⟨m,hm⟩:=Int.eq_ofNat_of_zero_le (show 0<=(ax G r).2[d]-1 by omega);have hs:(ax G r).2[d]=((m+1:Nat):Int):=by omega
 have Cl:m<top G:=by omega
 have hst:(r,((d+1:Nat):Int))∈cd G (fH G (bp q.1 i)) ((m+1:Nat):Int):=((rN _ _ _).2 _).2 ⟨(r,(d:Int)),hx,b1,by rw[b2,hs],by simp⟩;have hn:cd G (fH G (bp q.1 i)) ((m+1:Nat):Int)≠[]:=fun e=>by rw[e]at hst;cases hst
 have hin:=Yz (h.ok.here i hl m Cl hn);refine⟨_,hin.1,?_,by rw[hin.2];exact hst⟩;rw[hs,h.ok.trans i hl,TU Cl hn]
theorem Done.way{G}{q}(h:Done G q)(hv:checkN G=0){r}(hr:cN G r=true):∀(m d:Nat) (i:Nat),d+m=(ax G r).2.length->i<q.1.length->(r,(d:Int))∈fH G (bp q.1 i)->(0<m\/(r,(d:Int))∈bp q.1 i)->
  ∃j:Nat,j<q.1.length/\qc q.1.length q.2 (i:Int) ((ax G r).2.drop d)=(j:Int)/\(r,((ax G r).2.length:Int))∈bp q.1 j
 |0,d,i,e,hi,_,hx=>by
  have hx':(r,(d:Int))∈bp q.1 i:=by
   rcases hx with q|q
   ·omega
   ·exact q
  have hd:d=(ax G r).2.length:=by omega
  refine⟨i,hi,?_,by rw[←hd];exact hx'⟩;rw[hd,List.drop_length,walk_nil hi]
 |m+1,d,i,e,hi,hx,_=>by
  have hd:d<(ax G r).2.length:=by omega
  obtain⟨j,h1,h2,h3⟩:=h.one hv hi hr hd hx;have hcl:(r,((d+1:Nat):Int))∈fH G (bp q.1 j):=((sQ _ _).2 _).2 (.of h3 ((h.ok.good _ (ux h1)).2.2 _ h3));obtain⟨k,k1,k2,k3⟩:=Done.way h hv hr m (d+1) j (by omega) h1 hcl (.inr h3);refine⟨k,k1,?_,k3⟩;rw[List.drop_eq_getElem_cons hd,zPR hi,h2];exact k2
theorem Done.spells{G}{q}(h:Done G q)(hv:checkN G=0){i}(hi:i<q.1.length){r}(hr:cN G r=true)(h0:(ax G r).2.length≠0)(hx:(r,0)∈fH G (bp q.1 i)):
  ∃j:Nat,j<q.1.length/\qc q.1.length q.2 (i:Int) (ax G r).2=(j:Int)/\(r,((ax G r).2.length:Int))∈bp q.1 j:=
 h.way hv hr _ 0 i (Nat.zero_add _) hi hx (.inl (by omega))
def states(q:Whole):List (List au×List (Int×Int)):=q.1.zip q.2
theorem rD{q}(h:q.2.length=q.1.length):(states q).length=q.1.length:=by
 unfold states;rw[List.length_zip,h,Nat.min_self]
theorem zT{q}(h:q.2.length=q.1.length){i}(hi:i<q.1.length):(states q)[i]?=some (bp q.1 i,q.2.getD i []):=by
 unfold states;rw[List.getElem?_zip_eq_some];have hi2:i<q.2.length:=by omega
 refine⟨?_,?_⟩
 ·rw[List.getElem?_eq_getElem hi,wJ hi]
 ·rw[List.getElem?_eq_getElem hi2,List.getD_eq_getElem?_getD,List.getElem?_eq_getElem hi2]
  rfl
theorem sM.done{G}{n}(h:sM G n)(k:¬2000<(runs G (top G) n).1.length):Done G (runs G (top G) n):=
 ⟨Ez G (top G) n,h.1.resolve_left k⟩
inductive bE (G:ai):Int->List (List au×List (Int×Int))->Prop
 |bad:checkN G≠0->bE G (checkN G) []
 |many {n:Nat}:checkN G=0->sM G n->2000<(runs G (top G) n).1.length->bE G 7 []
 |all {n:Nat}:checkN G=0->sM G n->¬2000<(runs G (top G) n).1.length->bE G 0 (states (runs G (top G) n))
theorem bE.uniq{G}{e f}{X Y}(h:bE G e X)(k:bE G f Y):e=f/\X=Y:=by
 cases h with
 |bad h1=>
  cases k with
  |bad _=>exact⟨rfl,rfl⟩
  |many k1 _ _=>exact absurd k1 h1
  |all k1 _ _=>exact absurd k1 h1
 |many h1 h2 h3=>
  cases k with
  |bad k1=>exact absurd h1 k1
  |many _ _ _=>exact⟨rfl,rfl⟩
  |all _ k2 k3=>
   rw[h2.uniq k2]at h3;exact absurd h3 k3
 |all h1 h2 h3=>
  cases k with
  |bad k1=>exact absurd h1 k1
  |many _ k2 k3=>
   rw[h2.uniq k2]at h3;exact absurd k3 h3
  |all _ k2 _=>
   rw[h2.uniq k2];exact⟨rfl,rfl⟩
def td(G:ai)(n:Nat):Prop:=∀m,m<n->¬Stop (runs G (top G) m)
theorem zLX(G):td G 0:=fun m h=>absurd h (Nat.not_lt_zero m)
theorem td.next{G}{n}(h:td G n)(k:¬Stop (runs G (top G) n)):td G (n+1):=fun m hm=>by
 by_cases e:m=n
 ·rw[e];exact k
 ·exact h m (by omega)
theorem td.stop{G}{n}(h:td G n)(k:Stop (runs G (top G) n)):sM G n:=⟨k,h⟩
theorem td.len{G}{n}(h:td G n):(runs G (top G) n).2.length=n:=WX fun m hm=>by
 have h1:=h m hm;have h2:=(Ez G (top G) m).le;unfold Stop at h1;omega
end Au
namespace Lk
open Gr (ai checkN lM ax cN dD qb jN rB wH sf)
open Im
open Au
open Fi (nQ mM GD MI)
def yU(G:ai)(x:au):List Int:=(ax G x.1).2.drop (x.2+1).toNat
inductive La (G:ai) (q:Whole):Nat->au->Int->Prop
 |start:La G q 0 ((G.rules.length:Int),0) 0
 |move {i j:Nat} {x:au} {t:Int}:La G q i x t->aZ G x=true->leads (q.2.getD i []) (aQ G x)=(j:Int)->La G q j (x.1,x.2+1) t
 |opens {i r:Nat} {x:au} {t u:Int}:La G q i x t->aZ G x=true->r∈dD G (aQ G x)->mM G (yU G x++[t]) u->La G q i ((r:Int),0) u
theorem zQC{G}(hv:checkN G=0){t u}(ht:t=0\/qb G t=true)(h:nQ G t u):u=t:=by
 generalize hx:t=x at h;cases h with
 |leaf _=>exact hx.symm▸rfl
 |rule hr _ _ _=>
  rename_i r pre y post
  exfalso
  obtain⟨i,hi,rfl⟩:=List.getElem_of_mem hr;have h1:=wH (lM hv).2.2.2.1 hi;rw[sf hi]at h1;have h2:=jN.1 h1;rw[←hx]at h2;rcases ht with q|q
  ·omega
  ·have:=rB.1 q;omega
theorem zR{G}(hv:checkN G=0){t}(ht:t=0\/qb G t=true):∀{l:List Int} {u:Int},mM G (l++[t]) u↔mM G l u\/((∀z∈l,Fi.Can G z)/\u=t)
 |[],u=>by
  rw[List.nil_append,GD];constructor
  ·rintro(h|⟨_,h⟩)
   ·exact .inr ⟨(fun z hz=>by cases hz),zQC hv ht h⟩
   ·exact absurd h MI
  ·rintro(h|⟨_,rfl⟩)
   ·exact absurd h MI
   ·exact .inl (.leaf ht)
 |y::l,u=>by
  rw[List.cons_append,GD,GD,zR hv ht];constructor
  ·rintro(h|⟨h,h1|⟨h1,h2⟩⟩)
   ·exact .inl (.inl h)
   ·exact .inl (.inr ⟨h,h1⟩)
   ·exact .inr ⟨fun z hz=>by
     rcases List.mem_cons.1 hz with e|e
     ·exact e▸h
     ·exact h1 z e,h2⟩
  ·rintro((h|⟨h,h1⟩)|⟨h1,h2⟩)
   ·exact .inl h
   ·exact .inr ⟨h,.inl h1⟩
   ·exact .inr ⟨h1 y (List.mem_cons_self ..),.inr ⟨fun z hz=>h1 z (List.mem_cons_of_mem _ hz),h2⟩⟩
theorem Hv{G}{q}{i}{x}{t}(h:La G q i x t):t=0\/qb G t=true:=by
 induction h with
 |start=>exact .inl rfl
 |move _ _ _ ih=>exact ih
 |opens _ _ _ h _=>
  rename_i u _ _ _ _;have:=Fi.DV h;rcases Int.lt_or_eq_of_le this.1 with e|e
  ·exact .inr (rB.2 ⟨by omega,this.2⟩)
  ·exact .inl e.symm
theorem uI{G}{q}(D:Done G q)(hv:checkN G=0){i}{x}{t}(h:La G q i x t):i<q.1.length/\cM G (bp q.1 i) x:=by
 induction h with
 |start=>
  refine⟨D.ok.pos,.of ?_ (wC (Nat.le_refl _))⟩;rw[D.ok.zero];exact List.mem_singleton.2 rfl
 |move _ hb hl ih=>
  rename_i i j x t _;obtain⟨h1,h2⟩:=ih;obtain⟨r,d⟩:=x;obtain⟨b1,b2⟩:=kx.1 hb;obtain⟨c1,c2⟩:=iD.1 b1;dsimp only at c1 c2 b2;obtain⟨d,rfl⟩:=Int.eq_ofNat_of_zero_le c2.1
  have hr:cN G r=true:=by
   unfold cN;exact decide_eq_true c1
  have hd:d<(ax G r).2.length:=by
   unfold cQ at b2;omega
  obtain⟨k,k1,k2,k3⟩:=D.one hv h1 hr hd (((sQ _ _).2 _).2 h2);rw[←(si hr hd).2,hl]at k2;obtain rfl:j=k:=by omega
  refine⟨k1,.of k3 ?_⟩;exact(D.ok.good _ (ux k1)).2.2 _ k3
 |opens _ hb hr _ ih=>exact⟨ih.1,.next ih.2 hb hr⟩
open Classical in
noncomputable def gj(G:ai)(q:Whole)(i:Nat)(x:au):List Nat:=(List.range (G.terms.length+1)).filter fun t=>decide (La G q i x (t:Int))
open Classical in
theorem XM{G}{q}{i}{x}{t}:t∈gj G q i x↔La G q i x (t:Int):=by
 unfold gj;rw[List.mem_filter,List.mem_range];constructor
 ·exact fun h=>of_decide_eq_true h.2
 ·refine fun h=>⟨?_,decide_eq_true h⟩
  rcases Hv h with e|e
  ·omega
  ·have:=(rB.1 e).2;omega
def aV(G:ai)(k:Nat):au:=((k:Int),((ax G (k:Int)).2.length:Int))
open Classical in
noncomputable def dL(G:ai)(q:Whole)(i:Nat):List (Nat×List Nat):=((List.range (G.rules.length+1)).filter fun k=>decide (cM G (bp q.1 i) (aV G k))).map fun k=>(k,gj G q i (aV G k))
noncomputable def pY(G:ai)(q:Whole):List (List (Nat×List Nat)):=(List.range q.1.length).map (dL G q)
theorem yz(G)(q):(pY G q).length=q.1.length:=by simp[pY]
theorem Er{G}{L}{x}(h:cM G L x):aZ G x=false↔∃k:Nat,k<=G.rules.length/\x=aV G k:=by
 have hr:=oF h;obtain⟨⟨h1,h2⟩,h3,h4⟩:=iD.1 hr;obtain⟨r,d⟩:=x;dsimp only at h1 h2 h3 h4;obtain⟨n,rfl⟩:=Int.eq_ofNat_of_zero_le h1;unfold cQ at h4;constructor
 ·intro hb;refine⟨n,by omega,?_⟩
  have:¬d<((ax G (n:Int)).2.length:Int):=fun q=>by
   have:=kx.2 ⟨hr,(show((n:Int),d).2<(cQ G ((n:Int),d).1:Int)from by unfold cQ;exact q)⟩;rw[hb]at this;cases this
  unfold aV;exact Prod.ext rfl (by dsimp only;omega)
 ·rintro⟨k,hk,e⟩;unfold aV at e;injection e with e1 e2
  obtain rfl:n=k:=by omega
  cases hb:aZ G ((n:Int),d)with
  |false=>rfl
  |true=>
   have:=(kx.1 hb).2;unfold cQ at this;dsimp only at this;omega
end Lk
namespace Ac
open Gr (ai checkN ax)
open Im
open Au
open Lk (La aV)
abbrev mR:=Int×Int
abbrev Ah:=Int×Int×mR×mR
open Classical in
noncomputable def eB(G:ai)(q:Whole)(i k t:Nat):Bool:=decide (La G q i (aV G k) (t:Int))
open Classical in
theorem yF{G}{q}{i k t}:eB G q i k t=true↔La G q i (aV G k) (t:Int):=by
 unfold eB;rw[decide_eq_true_iff]
def lN(q:Whole)(i t:Nat):List mR:=if 0<t/\0<=leads (q.2.getD i []) (t:Int)then[(1,leads (q.2.getD i []) (t:Int))]else[]
noncomputable def iu(G:ai)(q:Whole)(i t:Nat):List mR:=if eB G q i G.rules.length t=true then[(3,0)]else[]
noncomputable def iB(G:ai)(q:Whole)(i t:Nat):List mR:=((List.range G.rules.length).filter fun k=>eB G q i k t).map fun k:Nat=>(2,(k:Int))
noncomputable def bh(G:ai)(q:Whole)(i t:Nat):List mR:=lN q i t++iu G q i t++iB G q i t
noncomputable def cm(G:ai)(q:Whole)(i t:Nat):mR:=(bh G q i t).headD (0,0)
noncomputable def cellC(G:ai)(q:Whole)(i t:Nat):List Ah:=(bh G q i t).tail.map fun b=>((i:Int),(t:Int),cm G q i t,b)
noncomputable def mz(G:ai)(q:Whole)(i:Nat):List Ah:=(List.range (G.terms.length+1)).flatMap (cellC G q i)
noncomputable def jO(G:ai)(q:Whole):List Ah:=(List.range q.1.length).flatMap (mz G q)
noncomputable def zWL(G:ai)(q:Whole)(i:Nat):List mR:=(List.range (G.terms.length+1)).map (cm G q i)
def zWS(G:ai)(q:Whole)(i:Nat):List Int:=(List.range G.ah.length).map fun k:Nat=>leads (q.2.getD i []) ((G.terms.length+1+k:Nat):Int)
structure Fy where
 rules:List (Int×List Int)
 acts:List (List mR)
 goto:List (List Int)
 terms:Int
 ah:Int
noncomputable def uu(G:ai)(q:Whole):Fy:=⟨G.rules++[ax G (G.rules.length:Int)],(List.range q.1.length).map (zWL G q),(List.range q.1.length).map (zWS G q),(G.terms.length:Int),(G.ah.length:Int)⟩
def nC:Fy:=⟨[],[],[],0,0⟩
inductive TabIs (G:ai):Int->Fy->Prop
 |bad {er:Int}:bE G er []->er≠0->TabIs G er nC
 |clash {q:Whole}:checkN G=0->Done G q->q.1.length<=2000->bE G 0 (states q)->jO G q≠[]->TabIs G 12 nC
 |all {q:Whole}:checkN G=0->Done G q->q.1.length<=2000->bE G 0 (states q)->jO G q=[]->TabIs G 0 (uu G q)
theorem zLK{G}{q}(h:jO G q=[]){i t}(hi:i<q.1.length)(ht:t<G.terms.length+1):(bh G q i t).length<=1:=by
 unfold jO mz at h;rw[List.flatMap_eq_nil_iff]at h;have h1:=h i (List.mem_range.2 hi);rw[List.flatMap_eq_nil_iff]at h1;have h2:=h1 t (List.mem_range.2 ht);unfold cellC at h2;rw[List.map_eq_nil_iff]at h2;rcases hl:bh G q i t with _|⟨a,_|⟨b,l⟩⟩
 ·simp
 ·simp
 ·rw[hl]at h2;simp at h2
end Ac
namespace Fi
open Gr (ai cp rB)
def Ir(G:ai)(n:Nat):Prop:=∀r∈G.rules,0<=r.1/\r.1<(n:Int)
def YJ(C:Int->Bool)(F:Int->Int->Bool)(m n:Nat):Nat:=mN C n+mO F m n
theorem zSl{C}{r}{x}(h:C x=true):eu C r x=true:=by unfold eu;rw[h];rfl
theorem NR{C}{F}{r}{x t}(h:F x t=true):dx C F r x t=true:=by unfold dx;rw[h];rfl
theorem zPe{C}{r}(h:bC C r.2=true):eu C r r.1=true:=by unfold eu;rw[h];simp
theorem zPf{C}{F}{r}{t}(h:dz C F r.2 t=true):dx C F r r.1 t=true:=by unfold dx;rw[h];simp
structure mW (G:ai) (n:Nat) (C0:Int->Bool) (F0:Int->Int->Bool) (j:Nat) (C:Int->Bool) (F:Int->Int->Bool) (b:Bool):Prop where
 snd:oO G C F
 leaf:lT G F
 no:b=false->(C=C0/\F=F0)/\∀i (h:i<G.rules.length),i<j->Shut C0 F0 G.rules[i]
 yes:b=true->YJ C F (G.terms.length+1) n<YJ C0 F0 (G.terms.length+1) n
theorem zUX{G}{n}{C}{F}(h:oO G C F)(hl:lT G F):mW G n C F 0 C F false:=⟨h,hl,fun _=>⟨⟨rfl,rfl⟩,fun i _ hi=>absurd hi (by omega)⟩,fun h=>by cases h⟩
theorem mW.all{G}{n}{C0 C}{F0 F}{j}(h:mW G n C0 F0 j C F false)(hj:¬j<G.rules.length):gy G C F:=by
 obtain⟨⟨e1,e2⟩,e3⟩:=h.no rfl;refine XI h.snd h.leaf fun r hr=>?_
 obtain⟨i,hi,rfl⟩:=List.getElem_of_mem hr;rw[e1,e2];exact e3 i hi (by omega)
def uP:Int->Bool:=fun _=>false
def mF(G:ai):Int->Int->Bool:=fun x t=>decide (x=t/\0<=x/\x<=(G.terms.length:Int))
theorem Mc(G):oO G uP (mF G):=by
 refine⟨(fun x h=>by cases h),fun x t h=>?_⟩;unfold mF at h;rw[decide_eq_true_iff]at h;obtain⟨rfl,h1,h2⟩:=h;exact .leaf (by rw[rB];omega)
theorem zWe(G):lT G (mF G):=fun x hx=>by
 unfold mF;rw[decide_eq_true_iff];rw[rB]at hx;omega
def fP(C:Int->Bool)(F B:Int->Int->Bool)(r:Int×List Int)(k:Nat)(t:Int):Bool:=dz C F (r.2.drop (k+1)) t||(bC C (r.2.drop (k+1))&&B r.1 t)
def dF(C:Int->Bool)(F B:Int->Int->Bool)(r:Int×List Int)(k:Nat)(x:Int):Int->Int->Bool:=fun y t=>B y t||(decide (y=x)&&fP C F B r k t)
def OJ(G:ai)(C:Int->Bool)(F B:Int->Int->Bool)(r:Int×List Int)(k:Nat):Prop:=∀hk:k<r.2.length,cp G r.2[k]=true->∀t,fP C F B r k t=true->B r.2[k] t=true
theorem zPn{G}{C}{F B}{r}(h:∀k,OJ G C F B r k):Y6 G C F B r:=fun pre x post e hn=>by
 have hl:pre.length<r.2.length:=by rw[e,List.length_append,List.length_cons];omega
 have hx:r.2[pre.length]=x:=by
  have:r.2[pre.length]?=some x:=by rw[e];simp
  rw[List.getElem?_eq_getElem hl]at this;injection this
 have hd:r.2.drop (pre.length+1)=post:=by
  rw[e,←List.drop_drop,List.drop_left]
  rfl
 have hp:=h pre.length hl (by rw[hx];exact hn);rw[hx]at hp;unfold fP at hp;rw[hd]at hp;exact⟨fun t ht=>hp t (by rw[ht];rfl),fun ha t ht=>hp t (by rw[ha,ht];simp)⟩
theorem Xo{G}{C}{F B}(j:gy G C F)(hb:jy G B){r}(hr:r∈G.rules){k}(hk)(hn:cp G r.2[k]=true){t}(h:fP C F B r k t=true):oL G r.2[k] t:=by
 have e:r.2=r.2.take k++r.2[k]::r.2.drop (k+1):=by
  rw[←List.drop_eq_getElem_cons hk,List.take_append_drop]
 unfold fP at h;rw[Bool.or_eq_true,Bool.and_eq_true]at h;rcases h with h|⟨h1,h2⟩
 ·exact .next hr e hn ((j.line _ _).1 h)
 ·exact .last hr e hn ((j.all _).1 h1) (hb.JH _ _ h2)
structure bc (G:ai) (n:Nat) (C:Int->Bool) (F B0:Int->Int->Bool) (j k:Nat) (B:Int->Int->Bool) (b:Bool):Prop where
 snd:jy G B
 start:B G.start 0=true
 no:b=false->B=B0/\(∀i (h:i<G.rules.length),i<j->∀l,OJ G C F B0 G.rules[i] l)/\∀h:j<G.rules.length,∀l,l<k->OJ G C F B0 G.rules[j] l
 yes:b=true->mO B (G.terms.length+1) n<mO B0 (G.terms.length+1) n
theorem zJl{G}{n}{C}{F B}(h:jy G B)(h0:B G.start 0=true):bc G n C F B 0 0 B false:=
 ⟨h,h0,fun _=>⟨rfl,(fun i _ hi=>absurd hi (by omega)),fun _ l hl=>absurd hl (by omega)⟩,fun h=>by cases h⟩
theorem bc.skip{G}{n}{C}{F B0 B}{j k}{b}(h:bc G n C F B0 j k B b)(hj)(hs:∀hk:k<G.rules[j].2.length,cp G G.rules[j].2[k]=false):bc G n C F B0 j (k+1) B b:=by
 refine⟨h.snd,h.start,fun e=>?_,h.yes⟩;obtain⟨e1,e2,e3⟩:=h.no e;refine⟨e1,e2,fun hj l hl=>?_⟩
 by_cases he:l=k
 ·subst he;exact fun hk hn=>by rw[hs hk]at hn;cases hn
 ·exact e3 hj l (by omega)
theorem bc.step{G}{n}{C}{F B0 B}{j k}{b c}(h:bc G n C F B0 j k B b)(hJ:gy G C F)(hj)(hk:k<G.rules[j].2.length)(hn:cp G G.rules[j].2[k]=true)
  (h0:0<=G.rules[j].2[k]) (h1:G.rules[j].2[k]<(n:Int)) (hc:c=true↔∃t,fP C F B G.rules[j] k t=true/\B G.rules[j].2[k] t=false):
  bc G n C F B0 j (k+1) (dF C F B G.rules[j] k G.rules[j].2[k]) (b||c):=by
 have hm:=List.getElem_mem hj;have hbs:jy G (dF C F B G.rules[j] k G.rules[j].2[k]):=h.snd.put fun t ht=>Xo hJ h.snd hm hk hn ht
 have le:∀{x t:Int},B x t=true->dF C F B G.rules[j] k G.rules[j].2[k] x t=true:=fun {x t} e=>by unfold dF;rw[e];rfl
 cases c with
 |false=>
  have hsh:∀t,fP C F B G.rules[j] k t=true->B G.rules[j].2[k] t=true:=fun t ht=>by
   cases e:B G.rules[j].2[k] t with
   |true=>rfl
   |false=>have:=hc.2 ⟨t,ht,e⟩;cases this
  have same:dF C F B G.rules[j] k G.rules[j].2[k]=B:=by
   funext x t
   unfold dF
   by_cases e:x=G.rules[j].2[k]
   ·subst e;cases ha:fP C F B G.rules[j] k t with
    |false=>simp
    |true=>simp[hsh t ha]
   ·simp[e]
  rw[same,Bool.or_false];refine⟨h.snd,h.start,fun e=>?_,h.yes⟩;obtain⟨e1,e2,e3⟩:=h.no e;refine⟨e1,e2,fun hj' l hl=>?_⟩
  by_cases he:l=k
  ·subst he;rw[←e1];exact fun _ _ t ht=>hsh t ht
  ·exact e3 hj' l (by omega)
 |true=>
  obtain⟨t,h2,h3⟩:=hc.1 rfl;obtain⟨t0,t1⟩:=zNC (Xo hJ h.snd hm hk hn h2);have et:((t.toNat:Nat):Int)=t:=by omega
  have ex:((G.rules[j].2[k].toNat:Nat):Int)=G.rules[j].2[k]:=by omega
  have hg:mO (dF C F B G.rules[j] k G.rules[j].2[k]) (G.terms.length+1) n<mO B (G.terms.length+1) n:=
   Wy (k:=G.rules[j].2[k].toNat) (fun x t _ _ e=>le e) (by omega)
    (Ns (k:=t.toNat) (fun i _ e=>le e) (by omega) (by rw[ex,et];exact h3) (by rw[ex,et];unfold dF;rw[h2];simp))
  rw[Bool.or_true];refine⟨hbs,le h.start,(fun e=>by cases e),fun _=>?_⟩;cases b with
  |false=>
   have e1:=(h.no rfl).1;rw[e1]at hg⊢;exact hg
  |true=>exact Nat.lt_trans hg (h.yes rfl)
theorem bc.next{G}{n}{C}{F B0 B}{j k}{b}(h:bc G n C F B0 j k B b)(hj)(hk:¬k<G.rules[j].2.length):bc G n C F B0 (j+1) 0 B b:=by
 refine⟨h.snd,h.start,fun e=>?_,h.yes⟩;obtain⟨e1,e2,e3⟩:=h.no e;refine⟨e1,fun i hi hl l=>?_,fun _ l hl=>absurd hl (by omega)⟩
 by_cases he:i=j
 ·subst he
  by_cases hlk:l<k
  ·exact e3 hi l hlk
  ·exact fun hl2=>absurd hl2 (by omega)
 ·exact e2 i hi (by omega) l
theorem bc.all{G}{n}{C}{F B0 B}{j k}(h:bc G n C F B0 j k B false)(hJ:gy G C F)(hj:¬j<G.rules.length):∀x t,B x t=true↔oL G x t:=by
 obtain⟨e1,e2,_⟩:=h.no rfl;refine zMg hJ h.snd h.start fun r hr=>?_
 obtain⟨i,hi,rfl⟩:=List.getElem_of_mem hr;rw[e1];exact zPn fun l=>e2 i hi (by omega) l
def lO(G:ai):Int->Int->Bool:=fun x t=>decide (x=G.start/\t=0)
theorem zWM(G):jy G (lO G)/\lO G G.start 0=true:=by
 refine⟨⟨fun x t h=>?_⟩,by simp[lO]⟩;unfold lO at h;rw[decide_eq_true_iff]at h;obtain⟨rfl,rfl⟩:=h;exact .start
end Fi
namespace Im
open Go.RowKit Go.Maps
section
variable {H:Type} {P:Program} {K T E:TypeId} {R:Value->Option (DataW H×List MemPlace)}
def Dat(u:DataW H)(D:DataW H)(X:au->Prop):Prop:=∀x,dY x->(X x/\∀z,D.atKey (ik x) z=u)\/(¬X x/\∀z,D.atKey (ik x) z=z)
theorem Dat.has{u D:DataW H}{X}(h:Dat u D X){x}(hx:dY x):has D (ik x)=true↔X x:=by
 rcases h x hx with⟨q,e⟩|⟨q,e⟩
 ·exact⟨fun _=>q,fun _=>has_true_of_atKey e⟩
 ·exact⟨fun k=>(by rw[has_false_of_atKey e]at k;exact Bool.noConfusion k),fun k=>absurd k q⟩
theorem cj.tight{u}{b n}{X}{w}(h:cj P K R u b n X w)(k:Kt P K)(M:List au)(hM:∀x,dY x->X x->x∈M):cj P K R u b M.length X w:=by
 obtain⟨D,ho,kd⟩:=h;obtain⟨es,eD,hpw,_⟩:=ho.entries k.law;obtain⟨es',Qv,hko⟩:=ho.keysOf;obtain rfl:es=es':=by rw[eD]at Qv;simpa using Qv
 have hk:∀p∈es,∃x,dY x/\p.1=ik x:=fun p hp=>by
  obtain⟨v,hv⟩:=hko p hp;obtain⟨x,hx,_,e⟩:=k.inv _ _ hv;exact⟨x,hx,e⟩
 have hX:∀p∈es,∀x,dY x->p.1=ik x->X x:=fun p hp x hx e=>by
  refine(Dat.has kd hx).1 ?_;rw[eD,has_eq,List.any_eq_true];refine⟨p,hp,?_⟩;rw[e];exact WideAt.sameKey_self (k.law.key (k.key x hx))
 have hlen:es.length<=M.length:=by
  have key:∀(l:List (Lit×DataW H)),(∀p∈l,p∈es)->l.Pairwise (fun p q=>p.1≠q.1)->∃s:List au,s.length=l.length/\s.Nodup/\∀x∈s,dY x/\∃p∈l,p.1=ik x:=by
   intro l
   induction l with
   |nil=>exact fun _ _=>⟨[],rfl,List.nodup_nil,fun x hx=>by cases hx⟩
   |cons p l ih=>
    intro hl hp;have hp':=List.pairwise_cons.1 hp;obtain⟨s,e1,e2,e3⟩:=ih (fun q hq=>hl q (List.mem_cons_of_mem _ hq)) hp'.2;obtain⟨x,hx,ex⟩:=hk p (hl p (List.mem_cons_self ..));refine⟨x::s,by simp[e1],List.nodup_cons.2 ⟨fun hs=>?_,e2⟩,fun y hy=>?_⟩
    ·obtain⟨_,q,hq,eq⟩:=e3 x hs;exact hp'.1 q hq (ex.trans eq.symm)
    ·rcases List.mem_cons.1 hy with e|hy
     ·subst e;exact⟨hx,p,List.mem_cons_self ..,ex⟩
     ·obtain⟨h1,q,hq,eq⟩:=e3 y hy;exact⟨h1,q,List.mem_cons_of_mem _ hq,eq⟩
  obtain⟨s,e1,e2,e3⟩:=key es (fun _ h=>h) hpw;rw[←e1]
  exact G6 e2 fun x hx=>by
   obtain⟨h1,p,hp,e⟩:=e3 x hx;exact hM x h1 (hX p hp x h1 e)
 obtain⟨ms,clock,h1,h2,h3,h4⟩:=ho;refine⟨D,⟨ms,clock,h1,h2,?_,h4⟩,kd⟩;rw[eD]at h4
 have e5:es.length=ms.size:=by
  have h4':=h4;simp only[DataW.map.injEq]at h4';rw[h4',length_sorted];simp
 omega
def Over(Lf:au->Prop):Prop:=∀x,dY x->¬Lf x
def cf(P:Program)(K:TypeId)(R:Value->Option (DataW H×List MemPlace))(u:DataW H)(b r n q:Nat)(X Lf:au->Prop)(w:World):Prop:=
 ∃D left cnt,w.ranges P K R b r n D left cnt/\Dat u D X/\(∀x,dY x->(left (ik x)=true↔Lf x))/\q+cnt<=n
theorem cf.keep{u}{b r n q}{X Lf}{w w'}(h:cf P K R u b r n q X Lf w)(hb:w'.heap[b]?=w.heap[b]?)(hr:w'.heap[r]?=w.heap[r]?):cf P K R u b r n q X Lf w':=by
 obtain⟨D,left,cnt,⟨es,clock,since,seen,c0,g1,g2,g3,g4,g5,g6⟩,k⟩:=h;exact⟨D,left,cnt,⟨es,clock,since,seen,c0,hb.trans g1,g2,g3,g4,hr.trans g5,g6⟩,k⟩
theorem cf.lt{u}{b r n q}{X Lf}{w}(h:cf P K R u b r n q X Lf w):b<w.heap.size/\r<w.heap.size/\r≠b:=by
 obtain⟨D,left,cnt,h,_⟩:=h;exact⟨h.owns.lt,h.lt,h.ne⟩
theorem cf.went{u}{b r n q}{X Lf}{w w'}(h:cf P K R u b r n q X Lf w)(hb:Below w.heap.size w w'):cf P K R u b r n q X Lf w':=h.keep (hb.block b h.lt.1) (hb.block r h.lt.2.1)
theorem cf.gU{b r}{w w':World}(hb:w'.heap[b]?=w.heap[b]?)(hr:w'.heap[r]?=w.heap[r]?):w'.rangeLeft b r=w.rangeLeft b r:=by
 unfold World.rangeLeft;rw[hb,hr]
theorem cf.walks{u}{b r n q}{X Lf}{w w'}(h:cf P K R u b r n q X Lf w)(hk:KeepsWalks w w'):cf P K R u b r n q X Lf w'/\w'.rangeLeft b r=w.rangeLeft b r:=by
 obtain⟨D,left,cnt,h,k⟩:=h;have h':=h.of_walks hk;exact⟨⟨D,left,cnt,h',k⟩,by rw[h'.left_eq,h.left_eq]⟩
theorem cf.iter_walk{u}{b r n q}{X Lf}{w}(h:cf P K R u b r n q X Lf w):∃o:Obj,w.heap[r]?=some o/\o.isWalk=true:=by
 obtain⟨D,left,cnt,h,k⟩:=h;exact h.iter_walk
theorem cf.start{u D}{b r n}{X}{w:World}(k:Kt P K)(ho:w.ownsMap P K R b n D)(kd:Dat u D X){w'}(h:w'.ranges P K R b r n D (Maps.has D) (Maps.size D)):cf P K R u b r n 0 X X w':=by
 refine⟨D,_,_,h,kd,fun x hx=>Dat.has kd hx,?_⟩;obtain⟨ms,clock,h1,h2,h3,h4⟩:=ho;subst h4;simp only[Maps.size,length_sorted,List.length_map,Array.length_toList];omega
theorem cf.step{u D}{b r n q cnt cnt2}{X Lf:au->Prop}{w'}{left:Lit->Bool}(k:Kt P K)(kd:Dat u D X)(hl:∀x,dY x->(left (ik x)=true↔Lf x))(hq:q+cnt<=n){x}(hx:dY x)
  (h:w'.ranges P K R b r n D (fun z=>left z&& !z.sameKey (ik x)) cnt2) (hc:cnt2<cnt):cf P K R u b r n (q+1) X (fun y=>Lf y/\y≠x) w':=by
 refine⟨D,_,_,h,kd,fun y hy=>?_,by omega⟩;dsimp only;rw[Bool.and_eq_true,hl y hy];refine and_congr_right fun _=>?_
 constructor
 ·intro e1 e2;subst e2;rw[WideAt.sameKey_self (k.law.key (k.key y hy))]at e1;exact Bool.noConfusion e1
 ·intro e1;rw[sameKey_ne fun e2=>e1 (Oz hy hx e2)]
  rfl
variable {ops:Array Oper} {rest:List Oper} {o:Oper} {a:Act} {Q:Exit->Act->World->Prop}
theorem zEJ(w)(hg:o.guard=none)(m)(hop:o.op=Op.range T m)(k:Kt P K)(ht:P.underlying T=some (.map K E))(u)(b n)(X)(hm:a.eval m=.map (some b))(h:cj P K R u b n X w)
  (hK:∀w',cf P K R u b w.heap.size n 0 X X w'->w.grownBy w' none->w'.heap.size=w.heap.size+1->wpList P ops Q rest (a.put o.dst (.pointer (some ⟨w.heap.size,0,none⟩))) w'):
  wpList P ops Q (o::rest) a w:=by
 obtain⟨D,ho,kd⟩:=h;exact wpList_range_own w hg m T hop K E k.law ht R b n D hm ho fun w' r1 r2 r3=>hK w' (cf.start k ho kd r1) r2 r3
theorem zEb(w)(hg:o.guard=none)(it)(hop:o.op=Op.next it false)(k:Kt P K)(b r n q)(X Lf)(hit:a.eval it=.pointer (some ⟨r,0,none⟩))(h:cf (H:=H) P K unitElem (.agg []) b r n q X Lf w)
  (hDone:Over Lf->wpList P ops Q rest (a.put o.dst (.tuple #[.bool false])) w)
  (hMore:∀(x:au) (w':World),dY x->Lf x->X x->cf (H:=H) P K unitElem (.agg []) b r n (q+1) X (fun y=>Lf y/\y≠x) w'->w'.rangeLeft b r<w.rangeLeft b r->w.grownBy w' (some r)->w'.heap.size=w.heap.size->
   (Instr.entry (.pointer (some ⟨r,0,none⟩))).run P w'=.ok (.tuple #[iv x,.agg #[]]) w'->wpList P ops Q rest (a.put o.dst (.tuple #[.bool true,iv x,.agg #[]])) w'):
  wpList P ops Q (o::rest) a w:=by
 obtain⟨D,left,cnt,h,kd,hl,hq⟩:=h
 refine wpList_next_ranges w hg it hop K k.law unitElem iv (fun _:Unit=> .agg #[]) (fun key kl hk=>by obtain⟨x,_,e,_⟩:=k.inv key kl hk;exact⟨x,e⟩) (fun v y hv=>⟨(),(unitElem_inv hv).1⟩) b r n D left cnt hit h
  (fun _ hl0=>hDone fun x hx=>by rw[←hl x hx,hl0];exact Bool.noConfusion) ?_
 intro x c kl y w' cnt' hkey hlk hv hat hrg hlt hgr hsz hen;obtain⟨x',hx,e1,rfl⟩:=k.inv _ _ hkey
 obtain rfl:x=x':=by
  have:=e1;unfold iv at this;simp at this;exact Prod.ext this.1 this.2
 exact hMore x w' hx ((hl x hx).1 hlk) ((Dat.has kd hx).1 (has_true_of_atKey hat)) (cf.step k kd hl hq hx hrg hlt) (by rw[hrg.left_eq,h.left_eq];exact hlt) hgr hsz hen
variable {F:Fence} {m:Nat}
theorem zDY(w)(hg:o.guard=none)(mo)(hop:o.op=Op.range T mo)(k:Kt P K)(ht:P.underlying T=some (.map K E))(u)(b n)(X)(hm:a.eval mo=.map (some b))(h:cj P K R u b n X w)
  (hK:∀w',cf P K R u b w.heap.size n 0 X X w'->w.grownBy w' none->w'.heap.size=w.heap.size+1->wpListIn F m P ops Q rest (a.put o.dst (.pointer (some ⟨w.heap.size,0,none⟩))) w'):
  wpListIn F m P ops Q (o::rest) a w:=by
 obtain⟨D,ho,kd⟩:=h;exact wpListIn_range_own w hg mo T hop K E k.law ht R b n D hm ho fun w' r1 r2 r3=>hK w' (cf.start k ho kd r1) r2 r3
theorem zD2(w)(hg:o.guard=none)(it)(hop:o.op=Op.next it false)(k:Kt P K)(b r n q)(X Lf)(hit:a.eval it=.pointer (some ⟨r,0,none⟩))(h:cf (H:=H) P K unitElem (.agg []) b r n q X Lf w)
  (hDone:Over Lf->wpListIn F m P ops Q rest (a.put o.dst (.tuple #[.bool false])) w)
  (hMore:∀(x:au) (w':World),dY x->Lf x->X x->cf (H:=H) P K unitElem (.agg []) b r n (q+1) X (fun y=>Lf y/\y≠x) w'->w'.rangeLeft b r<w.rangeLeft b r->w.grownBy w' (some r)->w'.heap.size=w.heap.size->
   (Instr.entry (.pointer (some ⟨r,0,none⟩))).run P w'=.ok (.tuple #[iv x,.agg #[]]) w'->wpListIn F m P ops Q rest (a.put o.dst (.tuple #[.bool true,iv x,.agg #[]])) w'):
  wpListIn F m P ops Q (o::rest) a w:=by
 obtain⟨D,left,cnt,h,kd,hl,hq⟩:=h
 refine wpListIn_next_ranges w hg it hop K k.law unitElem iv (fun _:Unit=> .agg #[]) (fun key kl hk=>by obtain⟨x,_,e,_⟩:=k.inv key kl hk;exact⟨x,e⟩) (fun v y hv=>⟨(),(unitElem_inv hv).1⟩) b r n D left cnt hit h
  (fun _ hl0=>hDone fun x hx=>by rw[←hl x hx,hl0];exact Bool.noConfusion) ?_
 intro x c kl y w' cnt' hkey hlk hv hat hrg hlt hgr hsz hen;obtain⟨x',hx,e1,rfl⟩:=k.inv _ _ hkey
 obtain rfl:x=x':=by
  have:=e1;unfold iv at this;simp at this;exact Prod.ext this.1 this.2
 exact hMore x w' hx ((hl x hx).1 hlk) ((Dat.has kd hx).1 (has_true_of_atKey hat)) (cf.step k kd hl hq hx hrg hlt) (by rw[hrg.left_eq,h.left_eq];exact hlt) hgr hsz hen
end
