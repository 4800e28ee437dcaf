/- A part of the proof. -/
import Derived.Test.YtegeamggbglneaaGreatDoorPk02
import Derived.ChangeKeys
import Derived.Deep.RegionLaw
import Derived.Maps.RangeWalk
import Derived.Sort.MapsRangeIn
import Derived.Sort.KeysCollected
import Derived.RangeFuncSeq
set_option linter.unusedVariables false
namespace Go.Proofs.YtegeamggbglneaaGreatDoor
namespace Im
open Gr (Gram zAY zAF ofN zBy)
abbrev Itm:=Int×Int
def ltP(a b:Itm):Prop:=a.1<b.1\/(a.1=b.1/\a.2<b.2)
instance (a b:Itm):Decidable (ltP a b):=by unfold ltP;infer_instance
theorem ltP.trans{a b c}(h:ltP a b)(k:ltP b c):ltP a c:=by
 unfold ltP at*;omega
theorem ltP.ne{a b}(h:ltP a b):a≠b:=fun e=>by
 subst e;unfold ltP at h;omega
theorem ltP.not{a b}(h:ltP a b):¬ltP b a:=by
 unfold ltP at*;omega
theorem zRn{a b}(h:¬ltP a b)(hn:a≠b):ltP b a:=by
 have hn':¬(a.1=b.1/\a.2=b.2):=fun⟨e1,e2⟩=>hn (Prod.ext e1 e2)
 unfold ltP at*;omega
def Srt(l:List Itm):Prop:=l.Pairwise ltP
theorem zOa:Srt []:=List.Pairwise.nil
theorem zFp(x):Srt [x]:=List.pairwise_singleton _ _
theorem zOZ:∀{a b:List Itm},Srt a->Srt b->(∀x,x∈a↔x∈b)->a=b
 |[],[],_,_,_=>rfl
 |[],y::b,_,_,h=>by
  have:=(h y).2 (List.mem_cons_self ..);cases this
 |x::a,[],_,_,h=>by
  have:=(h x).1 (List.mem_cons_self ..);cases this
 |x::a,y::b,ha,hb,h=>by
  have ha':=List.pairwise_cons.1 ha;have hb':=List.pairwise_cons.1 hb
  have e:x=y:=by
   rcases List.mem_cons.1 ((h x).1 (List.mem_cons_self ..))with e|e
   ·exact e
   ·rcases List.mem_cons.1 ((h y).2 (List.mem_cons_self ..))with e'|e'
    ·exact e'.symm
    ·exact absurd (ha'.1 _ e') (hb'.1 _ e).not
  subst e
  congr 1
  refine zOZ ha'.2 hb'.2 fun z=>?_
  constructor
  ·intro hz;rcases List.mem_cons.1 ((h z).1 (List.mem_cons_of_mem _ hz))with e|e
   ·subst e;exact absurd rfl (ha'.1 _ hz).ne
   ·exact e
  ·intro hz;rcases List.mem_cons.1 ((h z).2 (List.mem_cons_of_mem _ hz))with e|e
   ·subst e;exact absurd rfl (hb'.1 _ hz).ne
   ·exact e
def Is(l:List Itm)(P:Itm->Prop):Prop:=Srt l/\∀x,x∈l↔P x
theorem Is.uniq{a b}{P}(h:Is a P)(k:Is b P):a=b:=zOZ h.1 k.1 fun x=>(h.2 x).trans (k.2 x).symm
theorem Is.iff{a}{P Q}(h:Is a P)(e:∀x,P x↔Q x):Is a Q:=⟨h.1,fun x=>(h.2 x).trans (e x)⟩
theorem Is.nil{P}(h:∀x,¬P x):Is [] P:=⟨zOa,fun x=>⟨fun hx=>(List.not_mem_nil hx).elim,fun hx=>absurd hx (h x)⟩⟩
def putI:List Itm->Itm->List Itm
 |[],x=>[x]
 |y::l,x=>if ltP y x then y::putI l x else if y=x then y::l else x::y::l
theorem zJM{x z}:∀{l:List Itm},z∈putI l x↔z∈l\/z=x
 |[]=>by simp[putI]
 |y::l=>by
  unfold putI;split
  ·rw[List.mem_cons,zJM,List.mem_cons,or_assoc]
  ·split
   ·rename_i e;subst e;simp only[List.mem_cons];constructor
    ·exact fun h=> .inl h
    ·rintro(h|h)
     ·exact h
     ·exact .inl h
   ·simp only[List.mem_cons];constructor
    ·rintro(h|h|h)
     ·exact .inr h
     ·exact .inl (.inl h)
     ·exact .inl (.inr h)
    ·rintro((h|h)|h)
     ·exact .inr (.inl h)
     ·exact .inr (.inr h)
     ·exact .inl h
theorem zOb{x}:∀{l:List Itm},Srt l->Srt (putI l x)
 |[],_=>zFp x
 |y::l,h=>by
  have h':=List.pairwise_cons.1 h;unfold putI;split
  ·rename_i hl;refine List.pairwise_cons.2 ⟨fun z hz=>?_,zOb h'.2⟩;rcases zJM.1 hz with e|e
   ·exact h'.1 _ e
   ·rw[e];exact hl
  ·split
   ·exact h
   ·rename_i hl hn;have hx:=zRn hl hn;refine List.pairwise_cons.2 ⟨fun z hz=>?_,h⟩;rcases List.mem_cons.1 hz with e|e
    ·rw[e];exact hx
    ·exact hx.trans (h'.1 _ e)
def rlen(G:Gram)(r:Int):Nat:=(zAF G r).2.length
def zAI(G:Gram)(x:Itm):Bool:=zAY G x.1&&decide (0<=x.2/\x.2<=(rlen G x.1:Int))
def behB(G:Gram)(x:Itm):Bool:=zAI G x&&decide (x.2<(rlen G x.1:Int))
def behV(G:Gram)(x:Itm):Int:=if behB G x then(zAF G x.1).2.getD x.2.toNat 0 else 0
theorem zAS{G}{x}:zAI G x=true↔(0<=x.1/\x.1<=(G.rules.length:Int))/\(0<=x.2/\x.2<=(rlen G x.1:Int)):=by
 unfold zAI zAY;rw[Bool.and_eq_true,decide_eq_true_iff,decide_eq_true_iff]
theorem zAu{G}{x}:behB G x=true↔zAI G x=true/\x.2<(rlen G x.1:Int):=by
 unfold behB;rw[Bool.and_eq_true,decide_eq_true_iff]
theorem zLo{G}{x}(h:behB G x=true):zAI G (x.1,x.2+1)=true:=by
 obtain⟨h1,h2⟩:=zAu.1 h;have h3:=zAS.1 h1;rw[zAS];exact⟨h3.1,by dsimp only;omega,by dsimp only;omega⟩
theorem zBS{G}{r:Nat}(h:r<=G.rules.length):zAI G ((r:Int),0)=true:=by
 rw[zAS];exact⟨⟨by dsimp only;omega,by dsimp only;omega⟩,by dsimp only;omega,by dsimp only;omega⟩
inductive Clo (G:Gram) (L:List Itm):Itm->Prop
 |of {x:Itm}:x∈L->zAI G x=true->Clo G L x
 |next {y:Itm} {r:Nat}:Clo G L y->behB G y=true->r∈ofN G (behV G y)->Clo G L ((r:Int),0)
theorem zAn{G}{L}{x}(h:Clo G L x):zAI G x=true:=by
 cases h with
 |of _ h=>exact h
 |next _ _ h=>exact zBS (Nat.le_of_lt (zBy.1 h).1)
theorem zPQ{G}{L M}(k:∀x∈L,x∈M){x}(h:Clo G L x):Clo G M x:=by
 induction h with
 |of h1 h2=>exact .of (k _ h1) h2
 |next _ h2 h3 ih=>exact .next ih h2 h3
def zMH(G:Gram)(L:List Itm)(s:Int)(x:Itm):Prop:=∃y∈L,behB G y=true/\behV G y=s/\x=(y.1,y.2+1)
theorem zDF{G}{L}{s}{x}(h:zMH G L s x):zAI G x=true/\0<x.2:=by
 obtain⟨y,_,h1,_,h2⟩:=h;subst h2;have:=zAS.1 (zAu.1 h1).1;exact⟨zLo h1,by dsimp only;omega⟩
structure Mid (G:Gram) (L out:List Itm):Prop where
 srt:Srt out
 all:∀x∈L,zAI G x=true->x∈out
 sub:∀x∈out,Clo G L x
theorem Mid.start{G}{L out}(h:Is out (fun x=>x∈L/\zAI G x=true)):Mid G L out:=
 ⟨h.1,fun x h1 h2=>(h.2 x).2 ⟨h1,h2⟩,fun x hx=> .of ((h.2 x).1 hx).1 ((h.2 x).1 hx).2⟩
def Shut(G:Gram)(out:List Itm):Prop:=∀y∈out,behB G y=true->∀r∈ofN G (behV G y),((r:Int),(0:Int))∈out
theorem Mid.done{G}{L out}(m:Mid G L out)(h:Shut G out):Is out (Clo G L):=by
 refine⟨m.srt,fun x=>⟨m.sub x,fun k=>?_⟩⟩
 induction k with
 |of h1 h2=>exact m.all _ h1 h2
 |next _ h2 h3 ih=>exact h _ ih h2 _ h3
def allI(G:Gram):List Itm:=(List.range (G.rules.length+1)).flatMap fun(r:Nat)=>(List.range (rlen G (r:Int)+1)).map fun(d:Nat)=>((r:Int),(d:Int))
theorem zCW{G}{x}(h:zAI G x=true):x∈allI G:=by
 obtain⟨⟨h1,h2⟩,h3,h4⟩:=zAS.1 h;obtain⟨r,d⟩:=x;dsimp only at h1 h2 h3 h4;obtain⟨r,rfl⟩:=Int.eq_ofNat_of_zero_le h1;obtain⟨d,rfl⟩:=Int.eq_ofNat_of_zero_le h3;unfold allI;rw[List.mem_flatMap];exact⟨r,List.mem_range.2 (by omega),List.mem_map.2 ⟨d,List.mem_range.2 (by omega),rfl⟩⟩
theorem zIb{l}(h:Srt l):l.Nodup:=h.imp fun k=>k.ne
theorem zDs:∀{l M:List Itm},l.Nodup->(∀x∈l,x∈M)->l.length<=M.length
 |[],_,_,_=>Nat.zero_le _
 |x::l,M,h,k=>by
  have h':=List.nodup_cons.1 h;have hx:=k x (List.mem_cons_self ..);have:=zDs (M:=M.erase x) h'.2 fun z hz=>(List.mem_erase_of_ne (fun e=>h'.1 (by rw[←e];exact hz))).2 (k z (List.mem_cons_of_mem _ hz))
  rw[List.length_erase_of_mem hx]at this;have:=List.length_pos_of_mem hx;rw[List.length_cons];omega
theorem zHO{G}{l}(h:Srt l)(k:∀x∈l,zAI G x=true):l.length<=(allI G).length:=
 zDs (zIb h) fun x hx=>zCW (k x hx)
def adds(out:List Itm)(rs:List Nat):List Itm:=rs.foldl (fun l (r:Nat)=>putI l ((r:Int),0)) out
theorem zG8{x}:∀{rs:List Nat} {out:List Itm},x∈adds out rs↔x∈out\/∃r∈rs,x=((r:Int),0)
 |[],out=>by simp[adds]
 |r::rs,out=>by
  show x∈adds (putI out ((r:Int),0)) rs↔_;rw[zG8,zJM];simp only[List.mem_cons];constructor
  ·rintro((h|h)|⟨q,h1,h2⟩)
   ·exact .inl h
   ·exact .inr ⟨r,.inl rfl,h⟩
   ·exact .inr ⟨q,.inr h1,h2⟩
  ·rintro(h|⟨q,rfl|h1,h2⟩)
   ·exact .inl (.inl h)
   ·exact .inl (.inr h2)
   ·exact .inr ⟨q,h1,h2⟩
theorem zKj:∀{rs:List Nat} {out:List Itm},Srt out->Srt (adds out rs)
 |[],_,h=>h
 |r::rs,out,h=>by
  show Srt (adds (putI out ((r:Int),0)) rs);exact zKj (zOb h)
theorem Mid.adds{G}{L out}(m:Mid G L out){y}(hy:Clo G L y)(hb:behB G y=true):Mid G L (adds out (ofN G (behV G y))):=
 ⟨zKj m.srt,fun x h1 h2=>zG8.2 (.inl (m.all x h1 h2)),fun x hx=>by
  rcases zG8.1 hx with e|⟨r,hr,rfl⟩
  ·exact m.sub x e
  ·exact .next hy hb hr⟩
theorem zSE{G}{B}(h:∀r:Nat,r<=G.rules.length->rlen G (r:Int)<=B):(allI G).length<=(G.rules.length+1)*(B+1):=by
 unfold allI
 have:∀n,n<=G.rules.length+1->((List.range n).flatMap fun(r:Nat)=>(List.range (rlen G (r:Int)+1)).map fun(d:Nat)=>((r:Int),(d:Int))).length<=n*(B+1):=fun n=>by
  induction n with
  |zero=>simp
  |succ n ih=>
   intro hn;rw[List.range_succ,List.flatMap_append,List.length_append];have h1:=ih (by omega);have h2:=h n (by omega);simp only[List.flatMap_cons,List.flatMap_nil,List.append_nil,List.length_map,List.length_range];rw[Nat.succ_mul];omega
 exact this _ (Nat.le_refl _)
end Im
namespace Im
open Go.RowKit Go.Maps
def W64(x:Itm):Prop:=(Lit.int .i64 x.1).wf=true/\(Lit.int .i64 x.2).wf=true
def iv(x:Itm):Value:=.agg #[.int .i64 x.1,.int .i64 x.2]
def ik(x:Itm):Lit:=.string (keyBytes [.int .i64 x.1,.int .i64 x.2])
theorem zM8{x y}(hx:W64 x)(hy:W64 y)(h:ik x=ik y):x=y:=by
 unfold ik at h;simp only[Lit.string.injEq]at h
 have:=keyBytes_inj (l:=[.int .i64 x.1,.int .i64 x.2]) (l':=[.int .i64 y.1,.int .i64 y.2]) (by simp[Alike,Lit.sameKind])
  (fun a ha=>by
   simp only[List.mem_cons,List.not_mem_nil,or_false]at ha;rcases ha with rfl|rfl
   ·exact hx.1
   ·exact hx.2)
  (fun a ha=>by
   simp only[List.mem_cons,List.not_mem_nil,or_false]at ha;rcases ha with rfl|rfl
   ·exact hy.1
   ·exact hy.2) h
 simp at this;exact Prod.ext this.1 this.2
structure Kt (P:Program) (K:TypeId):Prop where
 law:Keyed P K
 key:∀x,W64 x->keyOf P K (iv x)=some (ik x)
 inv:∀key kl,keyOf P K key=some kl->∃x,W64 x/\key=iv x/\kl=ik x
theorem zKG{P:Program}{d}{t}{v}{l}(hu:P.underlying t=some (.int .i64))(h:P.keyLits (d+1) t [v]=some l):∃n,v=.int .i64 n/\(Lit.int .i64 n).wf=true/\l=[.int .i64 n]:=by
 unfold Program.keyLits at h;rw[hu]at h;cases v<;>simp at h
 obtain⟨⟨rfl,hw⟩,rfl⟩:=h;exact⟨_,rfl,hw,rfl⟩
theorem zVm{P}{K}(fa fb)(law:Keyed P K)(hu:P.underlying K=some (.struct #[fa,fb]))(ha:P.underlying fa.type=some (.int .i64))(hb:P.underlying fb.type=some (.int .i64))(hkt:P.keyType K=true)(hcells:P.cellsOf K=2)
  (ca:P.cellsOf fa.type=1) (cb:P.cellsOf fb.type=1) (oa:fa.offset=0) (ob:fb.offset=1) (na:(fa.name != "_")=true) (nb:(fb.name != "_")=true) (n) (hn:P.types.size=n+1):Kt P K:=by
 refine⟨law,fun x hx=>?_,fun key kl h=>?_⟩
 ·unfold keyOf iv;rw[hu];simp only[hkt,Bool.true_and];rw[if_pos (by simp[Value.formed,hu,hcells])];rw[hn];simp[Program.keyLits,hu,hcells,ca,cb,oa,ob,ha,hb,na,nb,hx.1,hx.2,Value.cells,ik]
 ·unfold keyOf at h;rw[hu]at h;simp only[hkt,Bool.true_and]at h;split at h
  ·rename_i hf;rw[Option.map_eq_some_iff]at h;obtain⟨ls,hls,rfl⟩:=h;cases key<;>simp[Value.formed,hu,hcells]at hf
   rename_i cs;obtain⟨cs⟩:=cs;rcases cs with _|⟨a,_|⟨b,_|⟨c,cs⟩⟩⟩<;>simp at hf
   rw[hn]at hls;unfold Program.keyLits at hls;rw[hu]at hls;simp[hcells,ca,cb,oa,ob,na,nb,Value.cells]at hls;cases h1:P.keyLits (n+1) fa.type [a]with
   |none=>rw[h1]at hls;simp at hls
   |some l1=>
    cases h2:P.keyLits (n+1) fb.type [b]with
    |none=>rw[h1,h2]at hls;simp at hls
    |some l2=>
     rw[h1,h2]at hls;obtain⟨x,rfl,wx,rfl⟩:=zKG ha h1;obtain⟨y,rfl,wy,rfl⟩:=zKG hb h2;simp at hls;subst hls;exact⟨(x,y),⟨wx,wy⟩,rfl,rfl⟩
  ·cases h
section
variable {H:Type} {P:Program} {K T E:TypeId} {R:Value->Option (DataW H×List MemPlace)}
def MSet(P:Program)(K:TypeId)(R:Value->Option (DataW H×List MemPlace))(u:DataW H)(b n:Nat)(X:Itm->Prop)(w:World):Prop:=
 ∃D:DataW H,w.ownsMap P K R b n D/\∀x,W64 x->(X x/\∀z,D.atKey (ik x) z=u)\/(¬X x/\∀z,D.atKey (ik x) z=z)
theorem MSet.made(w:World)(P)(K)(R)(u:DataW H):MSet P K R u w.heap.size 0 (fun _=>False) (w.alloc (.map #[] 0)):=
 ⟨_,World.ownsMap_made w P K R,fun x _=> .inr ⟨id,fun z=>rfl⟩⟩
theorem MSet.lt{u}{b n}{X}{w}(h:MSet P K R u b n X w):b<w.heap.size:=by
 obtain⟨D,h,_⟩:=h;exact h.lt
theorem MSet.mono{u}{b n n'}{X}{w}(h:MSet P K R u b n X w)(hn:n<=n'):MSet P K R u b n' X w:=by
 obtain⟨D,h,k⟩:=h;exact⟨D,h.mono hn,k⟩
theorem MSet.iff{u}{b n}{X Y}{w}(h:MSet P K R u b n X w)(e:∀x,W64 x->(X x↔Y x)):MSet P K R u b n Y w:=by
 obtain⟨D,h,k⟩:=h;exact⟨D,h,fun x hx=>(k x hx).imp (fun q=>⟨(e x hx).1 q.1,q.2⟩) (fun q=>⟨fun y=>q.1 ((e x hx).2 y),q.2⟩)⟩
theorem MSet.keep{u}{b n}{X}{w w'}(h:MSet P K R u b n X w)(hb:w'.heap[b]?=w.heap[b]?):MSet P K R u b n X w':=by
 obtain⟨D,⟨es,clock,h1,h2⟩,k⟩:=h;exact⟨D,⟨es,clock,hb.trans h1,h2⟩,k⟩
theorem MSet.went{u}{b n}{X}{w w'}(h:MSet P K R u b n X w)(hb:Below w.heap.size w w'):MSet P K R u b n X w':=h.keep (hb.block b h.lt)
theorem MSet.look_ok{u}{b n}{X}{w}(h:MSet P K R u b n X w)(k:Kt P K)(ht:P.underlying T=some (.map K E)){z}(hz:(zeroValue E).run P w=.ok z w){zd}{zp}(hzd:R z=some (zd,zp)){x}(hx:W64 x):
  ∃(c:Bool) (v:Value) (ps:List MemPlace),(c=true↔X x)/\(Instr.lookup T (.map (some b)) (iv x) true).run P w=.ok (.tuple #[v,.bool c]) w/\R v=some (if c then u else zd,ps):=by
 obtain⟨D,ho,kd⟩:=h;obtain⟨v,ps,hrun,hR⟩:=ho.look_ok k.law ht hz hzd (k.key x hx);rcases kd x hx with⟨q,hat⟩|⟨q,hat⟩
 ·rw[Maps.has_true_of_atKey hat]at hrun;exact⟨true,v,ps,⟨fun _=>q,fun _=>rfl⟩,hrun,by rw[hR,hat];rfl⟩
 ·rw[Maps.has_false_of_atKey hat]at hrun;exact⟨false,v,ps,⟨fun e=>Bool.noConfusion e,fun e=>absurd e q⟩,hrun,by rw[hR,hat];rfl⟩
theorem MSet.store{u}{b n}{X}{w}(h:MSet P K R u b n X w)(k:Kt P K)(ht:P.underlying T=some (.map K E))(hn:n<maxLen){v}{ps}(hv:R v=some (u,ps)){x}(hx:W64 x):
  ∃w',(Instr.mapUpdate T (.map (some b)) (iv x) v).run P w=.ok () w'/\MSet P K R u b (n+1) (fun y=>X y\/y=x) w'/\w.mapTurned w' b:=by
 obtain⟨D,ho,kd⟩:=h;obtain⟨w',hrun,h1,h2⟩:=ho.store k.law ht hn (k.key x hx) hv;refine⟨w',hrun,⟨_,h1,fun y hy=>?_⟩,h2⟩
 by_cases e:y=x
 ·subst e;exact .inl ⟨.inr rfl,fun z=>Maps.atKey_put_same ho.isMap (k.law.key (k.key y hy)) u z⟩
 ·have hne:ik y≠ik x:=fun q=>e (zM8 hy hx q)
  rcases kd y hy with⟨q,hat⟩|⟨q,hat⟩
  ·exact .inl ⟨.inl q,fun z=>(Maps.atKey_put_other hne u z).trans (hat z)⟩
  ·exact .inr ⟨fun r=>r.elim q e,fun z=>(Maps.atKey_put_other hne u z).trans (hat z)⟩
theorem zIg{o:Oper}{a}{K'}{Q}(w)(m y)(hop:o.op=Op.lookup T m y true)(k:Kt P K)(ht:P.underlying T=some (.map K E))
  (hz:(zeroValue E).run P w=.ok (.agg #[]) w) (b n) (X) (hm:a.eval m=.map (some b)) (h:MSet (H:=H) P K unitElem (.agg []) b n X w) (x) (hy:a.eval y=iv x) (hx:W64 x)
  (hK:∀c:Bool,(c=true↔X x)->K' (a.put o.dst (.tuple #[.agg #[],.bool c])) w):o.wp P a w K' Q:=by
 obtain⟨c,v,ps,hc,hrun,hR⟩:=h.look_ok k ht hz unitElem_mk hx;obtain⟨rfl,_⟩:=unitElem_inv hR;unfold Oper.wp;simp[execOp,hop,hm,hy,hrun,Result.andThen];exact hK c hc
theorem zJi{o:Oper}{a}{K'}{Q}(w)(m y v)(hop:o.op=Op.mapUpdate T m y v)(k:Kt P K)(ht:P.underlying T=some (.map K E))
  (u) (b n) (X) (hm:a.eval m=.map (some b)) (h:MSet P K R u b n X w) (hn:n<maxLen) (x) (hy:a.eval y=iv x) (hx:W64 x) (ps) (hv:R (a.eval v)=some (u,ps))
  (hK:∀w',MSet P K R u b (n+1) (fun y=>X y\/y=x) w'->w.mapTurned w' b->K' (a.put o.dst undef) w'):o.wp P a w K' Q:=by
 obtain⟨w',hrun,h1,h2⟩:=h.store k ht hn hv hx;unfold Oper.wp;simp[execOp,hop,hm,hy,hrun,Result.andThen];exact hK w' h1 h2
theorem zEe{ops}{rest}{o}{a}{w}{Q}(hg:o.guard=none)(h:∀K':Act->World->Prop,(∀a' w',wpList P ops Q rest a' w'->K' a' w')->o.wp P a w K' Q):wpList P ops Q (o::rest) a w:=
 wpList_plain hg fun K' hK=>h K' hK
end
end Im
namespace Im
open Gr (Gram checkN zAl zB1 zBe zAa ofN zBy zBM zA1)
theorem zEu{G}(h:zB1 G=false):G.rules.length<=300/\∀r∈G.rules,r.2.length<=8:=by
 unfold zB1 at h;simp only[Bool.or_eq_false_iff,decide_eq_false_iff_not,List.any_eq_false,decide_eq_true_eq]at h;exact⟨by omega,fun r hr=>by have:=h.2 r hr;omega⟩
theorem zCN{G}(h:checkN G=0){r}(hr:r<=G.rules.length):rlen G (r:Int)<=8:=by
 have hm:=zEu (zAl h).1;unfold rlen
 by_cases e:r=G.rules.length
 ·subst e;rw[(zA1 G).2];simp
 ·have hr':r<G.rules.length:=by omega
  rw[(zBM hr').2];exact hm.2 _ (List.getElem_mem hr')
theorem zBE{G}(h:checkN G=0):(allI G).length<=2709:=by
 have h1:=zSE (G:=G) (B:=8) fun r hr=>zCN h hr
 have h2:=(zEu (zAl h).1).1;have h3:(G.rules.length+1)*(8+1)<=301*9:=Nat.mul_le_mul (by omega) (by omega);omega
theorem zDZ{G}(h:checkN G=0){x}(hx:zAI G x=true):0<=x.1/\x.1<=300/\0<=x.2/\x.2<=8:=by
 obtain⟨⟨h1,h2⟩,h3,h4⟩:=zAS.1 hx;have hm:=(zEu (zAl h).1).1;obtain⟨r,hr⟩:=Int.eq_ofNat_of_zero_le h1;have:=zCN h (r:=r) (by omega);rw[hr]at h4;omega
theorem zKr{n}(h: -1000<=n)(k:n<=1000):(Lit.int .i64 n).wf=true:=by
 simp only[Lit.wf,IntKind.min,IntKind.max,IntKind.signed,IntKind.bits,Bool.and_eq_true,decide_eq_true_eq,if_true];omega
theorem zCt{G}(h:checkN G=0){x}(hx:zAI G x=true):W64 x:=by
 have:=zDZ h hx;exact⟨zKr (by omega) (by omega),zKr (by omega) (by omega)⟩
theorem zNR{G}(h:checkN G=0):ofN G 0=[]:=by
 rw[List.eq_nil_iff_forall_not_mem];intro r hr;obtain⟨h1,h2⟩:=zBy.1 hr;have:=zAa.1 (zBe (zAl h).2.2.2.1 h1);omega
theorem zP6{G}(h:checkN G=0){x}(hx:¬behB G x=true):ofN G (behV G x)=[]:=by
 unfold behV;rw[if_neg hx];exact zNR h
theorem zMa{G}{x y z}(h:Clo G [x] y)(k:Clo G [y] z):Clo G [x] z:=by
 induction k with
 |of h1 h2=>
  rw[List.mem_singleton]at h1;subst h1;exact h
 |next _ h2 h3 ih=>exact .next ih h2 h3
theorem zJx{G}{x}(h:zAI G x=true):Clo G [x] x:=.of (List.mem_singleton.2 rfl) h
theorem zST{G}{x}(h:zAI G x=true){r}(hr:r∈ofN G (behV G x))(hv:checkN G=0):Clo G [x] ((r:Int),0):=by
 by_cases hb:behB G x=true
 ·exact .next (zJx h) hb hr
 ·rw[zP6 hv hb]at hr;cases hr
structure Sprd (G:Gram) (X:Itm->Prop) (x:Itm) (Y:Itm->Prop):Prop where
 old:∀y,X y->Y y
 own:Y x
 new:∀y,Y y->X y\/Clo G [x] y
 shut:∀y,Y y->¬X y->∀r∈ofN G (behV G y),Y ((r:Int),0)
theorem Sprd.none{G}{X Y}{x}(h:X x)(e:∀y,Y y↔X y\/y=x):Sprd G X x Y:=by
 have e':∀y,Y y↔X y:=fun y=>(e y).trans ⟨fun k=>k.elim id fun k=>k▸h,.inl⟩
 exact⟨fun y hy=>(e' y).2 hy,(e' x).2 h,fun y hy=> .inl ((e' y).1 hy),fun y hy hn=>absurd ((e' y).1 hy) hn⟩
structure Part (G:Gram) (X:Itm->Prop) (x:Itm) (K:List Nat) (j:Nat) (Z:Itm->Prop):Prop where
 old:∀y,X y->Z y
 own:Z x
 new:∀y,Z y->X y\/Clo G [x] y
 kids:∀i (h:i<K.length),i<j->Z ((K[i]:Int),0)
 shut:∀y,Z y->¬X y->y≠x->∀r∈ofN G (behV G y),Z ((r:Int),0)
theorem Part.start{G}{X Z}{x}{K}(hr:zAI G x=true)(e:∀y,Z y↔X y\/y=x):Part G X x K 0 Z:=
 ⟨fun y hy=>(e y).2 (.inl hy),(e x).2 (.inr rfl),fun y hy=>((e y).1 hy).imp id fun k=>by rw[k];exact zJx hr,fun i _ hi=>by omega,fun y hy hn hne=>absurd ((e y).1 hy) fun k=>k.elim hn hne⟩
theorem Part.step{G}{X Z Y}{x}{j}(hv:checkN G=0)(hr:zAI G x=true)(p:Part G X x (ofN G (behV G x)) j Z)(hj)(s:Sprd G Z (((ofN G (behV G x))[j]:Int),0) Y):Part G X x (ofN G (behV G x)) (j+1) Y:=by
 refine⟨fun y hy=>s.old y (p.old y hy),s.old x p.own,fun y hy=>?_,fun i hi hij=>?_,fun y hy hn hne r hk=>?_⟩
 ·rcases s.new y hy with k|k
  ·exact p.new y k
  ·exact .inr (zMa (zST hr (List.getElem_mem hj) hv) k)
 ·by_cases e:i=j
  ·subst e;exact s.own
  ·exact s.old _ (p.kids i hi (by omega))
 ·rcases Classical.em (Z y)with k|k
  ·exact s.old _ (p.shut y k hn hne r hk)
  ·exact s.shut y hy k r hk
theorem Part.done{G}{X Z}{x}(p:Part G X x (ofN G (behV G x)) (ofN G (behV G x)).length Z):Sprd G X x Z:=by
 refine⟨p.old,p.own,p.new,fun y hy hn r hk=>?_⟩
 by_cases e:y=x
 ·subst e;obtain⟨i,hi,e⟩:=List.getElem_of_mem hk;rw[←e];exact p.kids i hi hi
 ·exact p.shut y hy hn e r hk
theorem Part.right{G}{X Z}{x}{K}{j}(p:Part G X x K j Z)(h:∀y,X y->zAI G y=true)(y)(hy:Z y):zAI G y=true:=(p.new y hy).elim (h y) zAn
structure Way (G:Gram) (L:List Itm) (Lf Z:Itm->Prop):Prop where
 sub:∀y,Z y->Clo G L y
 met:∀y,y∈L->zAI G y=true->¬Lf y->Z y
 shut:∀y,Z y->∀r∈ofN G (behV G y),Z ((r:Int),0)
theorem Way.start{G}{L}{X Z}(hX:∀y,y∈L->zAI G y=true->X y)(hz:∀y,¬Z y):Way G L X Z:=
 ⟨fun y hy=>absurd hy (hz y),fun y h1 h2 h3=>absurd (hX y h1 h2) h3,fun y hy=>absurd hy (hz y)⟩
theorem Way.step{G}{L}{Lf Z Y}{x}(p:Way G L Lf Z)(hx:x∈L)(hr:zAI G x=true)(s:Sprd G Z x Y):Way G L (fun y=>Lf y/\y≠x) Y:=by
 refine⟨fun y hy=>?_,fun y h1 h2 h3=>?_,fun y hy r hk=>?_⟩
 ·rcases s.new y hy with k|k
  ·exact p.sub y k
  ·exact zPQ (fun z hz=>by rw[List.mem_singleton]at hz;rw[hz];exact hx) k
 ·by_cases e:y=x
  ·rw[e];exact s.own
  ·exact s.old y (p.met y h1 h2 fun k=>h3 ⟨k,e⟩)
 ·rcases Classical.em (Z y)with k|k
  ·exact s.old _ (p.shut y k r hk)
  ·exact s.shut y hy k r hk
theorem Way.done{G}{L}{Lf Z}(p:Way G L Lf Z)(h:∀y,y∈L->zAI G y=true->¬Lf y)(y):Z y↔Clo G L y:=by
 refine⟨p.sub y,fun k=>?_⟩
 induction k with
 |of h1 h2=>exact p.met _ h1 h2 (h _ h1 h2)
 |next _ h2 h3 ih=>exact p.shut _ ih _ h3
theorem Way.right{G}{L}{Lf Z}(p:Way G L Lf Z)(y)(hy:Z y):zAI G y=true:=zAn (p.sub y hy)
end Im
namespace Au
open Gr (Gram)
open Im
theorem zTp(G):Srt (allI G):=by
 unfold Srt allI;rw[List.pairwise_flatMap];refine⟨fun r _=>?_,?_⟩
 ·rw[List.pairwise_map];refine List.pairwise_lt_range.imp fun {a b} h=>?_
  refine .inr ⟨rfl,?_⟩;dsimp only;omega
 ·refine List.pairwise_lt_range.imp fun {a b} h=>?_
  intro x hx y hy;obtain⟨_,_,rfl⟩:=List.mem_map.1 hx;obtain⟨_,_,rfl⟩:=List.mem_map.1 hy;refine .inl ?_;dsimp only;omega
open Classical in
noncomputable def zQr(G:Gram)(P:Itm->Prop):List Itm:=(allI G).filter fun x=>decide (P x)
open Classical in
theorem zNJ{G}{P}(h:∀x,P x->zAI G x=true):Is (zQr G P) P:=by
 refine⟨(zTp G).sublist List.filter_sublist,fun x=>?_⟩;unfold zQr;rw[List.mem_filter];exact⟨fun q=>of_decide_eq_true q.2,fun q=>⟨zCW (h x q),decide_eq_true q⟩⟩
noncomputable def clL(G:Gram)(L:List Itm):List Itm:=zQr G (Clo G L)
noncomputable def stL(G:Gram)(L:List Itm)(s:Int):List Itm:=zQr G (zMH G L s)
theorem zF5(G)(L):Is (clL G L) (Clo G L):=zNJ fun x=>zAn
theorem zFK(G)(L)(s):Is (stL G L s) (zMH G L s):=zNJ fun x h=>(zDF h).1
abbrev Half:=List (List Itm)×List (Int×Int)
noncomputable def oneS(G:Gram)(c:List Itm)(s:Nat)(p:Half):Half:=
 if stL G c s=[]then p else(if stL G c s∈p.1 then p.1 else p.1++[stL G c s],p.2++[((s:Int),((p.1++[stL G c s]).idxOf (stL G c s):Int))])
noncomputable def zDK(G:Gram)(c:List Itm):Nat->Half->Half
 |0,p=>p
 |n+1,p=>oneS G c (n+1) (zDK G c n p)
theorem zCK(G)(c)(n)(p):zDK G c (n+1) p=oneS G c (n+1) (zDK G c n p):=rfl
theorem zIG{G}{c}{s:Nat}{p}(h:stL G c s=[]):oneS G c s p=p:=if_pos h
theorem zQf{G}{c}{s:Nat}{p}(h:stL G c s≠[])(k:stL G c s∈p.1):oneS G c s p=(p.1,p.2++[((s:Int),(p.1.idxOf (stL G c s):Int))]):=by
 unfold oneS;rw[if_neg h,if_pos k,List.idxOf_append,if_pos k]
theorem zQe{G}{c}{s:Nat}{p}(h:stL G c s≠[])(k:stL G c s∉p.1):oneS G c s p=(p.1++[stL G c s],p.2++[((s:Int),(p.1.length:Int))]):=by
 unfold oneS;rw[if_neg h,if_neg k,List.idxOf_append,if_neg k];simp
abbrev Whole:=List (List Itm)×List (List (Int×Int))
noncomputable def rnd(G:Gram)(top:Nat)(q:Whole):Whole:=
 match q.1[q.2.length]? with
 |none=>q
 |some L=>((zDK G (clL G L) top (q.1,[])).1,q.2++[(zDK G (clL G L) top (q.1,[])).2])
noncomputable def runs(G:Gram)(top:Nat):Nat->Whole
 |0=>([[((G.rules.length:Int),0)]],[])
 |n+1=>rnd G top (runs G top n)
theorem zKb{G}{top}{q}(h):rnd G top q=((zDK G (clL G q.1[q.2.length]) top (q.1,[])).1,q.2++[(zDK G (clL G q.1[q.2.length]) top (q.1,[])).2]):=by
 unfold rnd;rw[List.getElem?_eq_getElem h]
noncomputable def zBI(G:Gram)(ks:List (List Itm))(c:List Itm)(n:Nat):List (Int×Int):=
 (List.range n).filterMap fun i=>if stL G c ((i+1:Nat):Int)=[]then none else some (((i+1:Nat):Int),(ks.idxOf (stL G c ((i+1:Nat):Int)):Int))
theorem zBO(G)(ks)(c)(n):zBI G ks c (n+1)=zBI G ks c n++(if stL G c ((n+1:Nat):Int)=[]then[]else[(((n+1:Nat):Int),(ks.idxOf (stL G c ((n+1:Nat):Int)):Int))]):=by
 unfold zBI;rw[List.range_succ,List.filterMap_append]
 congr 1
 by_cases h:stL G c ((n+1:Nat):Int)=[]
 ·simp only[List.filterMap_cons,List.filterMap_nil,if_pos h]
 ·simp only[List.filterMap_cons,List.filterMap_nil,if_neg h]
theorem zFq{G}{ks}{c}{n}(more)(h:∀i,i<n->stL G c ((i+1:Nat):Int)≠[]->stL G c ((i+1:Nat):Int)∈ks):zBI G (ks++more) c n=zBI G ks c n:=by
 induction n with
 |zero=>rfl
 |succ n ih=>
  rw[zBO,zBO,ih fun i hi=>h i (by omega)]
  by_cases k:stL G c ((n+1:Nat):Int)=[]
  ·rw[if_pos k,if_pos k]
  ·rw[if_neg k,if_neg k,List.idxOf_append,if_pos (h n (by omega) k)]
structure HalfOk (G:Gram) (c:List Itm) (ks:List (List Itm)) (n:Nat) (p:Half):Prop where
 front:∃more,p.1=ks++more/\∀k∈more,∃i,i<n/\k=stL G c ((i+1:Nat):Int)/\k≠[]
 nodup:p.1.Nodup
 here:∀i,i<n->stL G c ((i+1:Nat):Int)≠[]->stL G c ((i+1:Nat):Int)∈p.1
 trans:p.2=zBI G p.1 c n
theorem HalfOk.start{G}{c}{ks}(h:ks.Nodup):HalfOk G c ks 0 (ks,[]):=
 ⟨⟨[],by simp,fun k hk=>by cases hk⟩,h,fun i hi=>by omega,rfl⟩
theorem HalfOk.next{G}{c}{ks}{n}{p}(h:HalfOk G c ks n p):HalfOk G c ks (n+1) (oneS G c (n+1) p):=by
 obtain⟨more,e,hm⟩:=h.front
 by_cases h0:stL G c ((n+1:Nat):Int)=[]
 ·rw[zIG h0];refine⟨⟨more,e,fun k hk=>?_⟩,h.nodup,fun i hi hn=>?_,?_⟩
  ·obtain⟨i,h1,h2⟩:=hm k hk;exact⟨i,by omega,h2⟩
  ·by_cases q:i=n
   ·subst q;exact absurd h0 hn
   ·exact h.here i (by omega) hn
  ·rw[zBO,if_pos h0,List.append_nil];exact h.trans
 ·by_cases h1:stL G c ((n+1:Nat):Int)∈p.1
  ·rw[zQf h0 h1];refine⟨⟨more,e,fun k hk=>?_⟩,h.nodup,fun i hi hn=>?_,?_⟩
   ·obtain⟨i,h1,h2⟩:=hm k hk;exact⟨i,by omega,h2⟩
   ·by_cases q:i=n
    ·subst q;exact h1
    ·exact h.here i (by omega) hn
   ·rw[zBO,if_neg h0,←h.trans]
  ·rw[zQe h0 h1];refine⟨⟨more++[stL G c ((n+1:Nat):Int)],by dsimp only;rw[e,List.append_assoc],fun k hk=>?_⟩,?_,fun i hi hn=>?_,?_⟩
   ·rcases List.mem_append.1 hk with hk|hk
    ·obtain⟨i,h1,h2⟩:=hm k hk;exact⟨i,by omega,h2⟩
    ·rw[List.mem_singleton]at hk;exact⟨n,by omega,hk,by rw[hk];exact h0⟩
   ·dsimp only;rw[List.nodup_append];refine⟨h.nodup,by simp,fun x hx y hy q=>?_⟩;rw[List.mem_singleton]at hy;subst hy;subst q;exact h1 hx
   ·by_cases q:i=n
    ·subst q;exact List.mem_append.2 (.inr (List.mem_singleton.2 rfl))
    ·exact List.mem_append.2 (.inl (h.here i (by omega) hn))
   ·dsimp only;rw[zBO,if_neg h0,zFq _ h.here,←h.trans,List.idxOf_append,if_neg h1];simp
theorem zGy{G}{c}{ks}(h:ks.Nodup):∀n,HalfOk G c ks n (zDK G c n (ks,[]))
 |0=> .start h
 |n+1=>(zGy h n).next
end Au
namespace Im
open Go.RowKit Go.Maps
section
variable {H:Type} {P:Program} {K T E:TypeId} {R:Value->Option (DataW H×List MemPlace)}
def Dat(u:DataW H)(D:DataW H)(X:Itm->Prop):Prop:=∀x,W64 x->(X x/\∀z,D.atKey (ik x) z=u)\/(¬X x/\∀z,D.atKey (ik x) z=z)
theorem Dat.has{u D:DataW H}{X}(h:Dat u D X){x}(hx:W64 x):has D (ik x)=true↔X x:=by
 rcases h x hx with⟨q,e⟩|⟨q,e⟩
 ·exact⟨fun _=>q,fun _=>has_true_of_atKey e⟩
 ·exact⟨fun k=>(by rw[has_false_of_atKey e]at k;exact Bool.noConfusion k),fun k=>absurd k q⟩
theorem MSet.tight{u}{b n}{X}{w}(h:MSet P K R u b n X w)(k:Kt P K)(M:List Itm)(hM:∀x,W64 x->X x->x∈M):MSet P K R u b M.length X w:=by
 obtain⟨D,ho,kd⟩:=h;obtain⟨es,eD,hpw,_⟩:=ho.entries k.law;obtain⟨es',eD',hko⟩:=ho.keysOf;obtain rfl:es=es':=by rw[eD]at eD';simpa using eD'
 have hk:∀p∈es,∃x,W64 x/\p.1=ik x:=fun p hp=>by
  obtain⟨v,hv⟩:=hko p hp;obtain⟨x,hx,_,e⟩:=k.inv _ _ hv;exact⟨x,hx,e⟩
 have hX:∀p∈es,∀x,W64 x->p.1=ik x->X x:=fun p hp x hx e=>by
  refine(Dat.has kd hx).1 ?_;rw[eD,has_eq,List.any_eq_true];refine⟨p,hp,?_⟩;rw[e];exact WideAt.sameKey_self (k.law.key (k.key x hx))
 have hlen:es.length<=M.length:=by
  have key:∀(l:List (Lit×DataW H)),(∀p∈l,p∈es)->l.Pairwise (fun p q=>p.1≠q.1)->∃s:List Itm,s.length=l.length/\s.Nodup/\∀x∈s,W64 x/\∃p∈l,p.1=ik x:=by
   intro l
   induction l with
   |nil=>exact fun _ _=>⟨[],rfl,List.nodup_nil,fun x hx=>by cases hx⟩
   |cons p l ih=>
    intro hl hp;have hp':=List.pairwise_cons.1 hp;obtain⟨s,e1,e2,e3⟩:=ih (fun q hq=>hl q (List.mem_cons_of_mem _ hq)) hp'.2;obtain⟨x,hx,ex⟩:=hk p (hl p (List.mem_cons_self ..));refine⟨x::s,by simp[e1],List.nodup_cons.2 ⟨fun hs=>?_,e2⟩,fun y hy=>?_⟩
    ·obtain⟨_,q,hq,eq⟩:=e3 x hs;exact hp'.1 q hq (ex.trans eq.symm)
    ·rcases List.mem_cons.1 hy with e|hy
     ·subst e;exact⟨hx,p,List.mem_cons_self ..,ex⟩
     ·obtain⟨h1,q,hq,eq⟩:=e3 y hy;exact⟨h1,q,List.mem_cons_of_mem _ hq,eq⟩
  obtain⟨s,e1,e2,e3⟩:=key es (fun _ h=>h) hpw;rw[←e1]
  exact zDs e2 fun x hx=>by
   obtain⟨h1,p,hp,e⟩:=e3 x hx;exact hM x h1 (hX p hp x h1 e)
 obtain⟨ms,clock,h1,h2,h3,h4⟩:=ho;refine⟨D,⟨ms,clock,h1,h2,?_,h4⟩,kd⟩;rw[eD]at h4
 have e5:es.length=ms.size:=by
  have h4':=h4;simp only[DataW.map.injEq]at h4';rw[h4',length_sorted];simp
 omega
def Over(Lf:Itm->Prop):Prop:=∀x,W64 x->¬Lf x
def MRan(P:Program)(K:TypeId)(R:Value->Option (DataW H×List MemPlace))(u:DataW H)(b r n q:Nat)(X Lf:Itm->Prop)(w:World):Prop:=
 ∃D left cnt,w.ranges P K R b r n D left cnt/\Dat u D X/\(∀x,W64 x->(left (ik x)=true↔Lf x))/\q+cnt<=n
theorem MRan.keep{u}{b r n q}{X Lf}{w w'}(h:MRan P K R u b r n q X Lf w)(hb:w'.heap[b]?=w.heap[b]?)(hr:w'.heap[r]?=w.heap[r]?):MRan P K R u b r n q X Lf w':=by
 obtain⟨D,left,cnt,⟨es,clock,since,seen,c0,g1,g2,g3,g4,g5,g6⟩,k⟩:=h;exact⟨D,left,cnt,⟨es,clock,since,seen,c0,hb.trans g1,g2,g3,g4,hr.trans g5,g6⟩,k⟩
theorem MRan.lt{u}{b r n q}{X Lf}{w}(h:MRan P K R u b r n q X Lf w):b<w.heap.size/\r<w.heap.size/\r≠b:=by
 obtain⟨D,left,cnt,h,_⟩:=h;exact⟨h.owns.lt,h.lt,h.ne⟩
theorem MRan.went{u}{b r n q}{X Lf}{w w'}(h:MRan P K R u b r n q X Lf w)(hb:Below w.heap.size w w'):MRan P K R u b r n q X Lf w':=h.keep (hb.block b h.lt.1) (hb.block r h.lt.2.1)
theorem MRan.left_keep{b r}{w w':World}(hb:w'.heap[b]?=w.heap[b]?)(hr:w'.heap[r]?=w.heap[r]?):w'.rangeLeft b r=w.rangeLeft b r:=by
 unfold World.rangeLeft;rw[hb,hr]
theorem MRan.walks{u}{b r n q}{X Lf}{w w'}(h:MRan P K R u b r n q X Lf w)(hk:KeepsWalks w w'):MRan P K R u b r n q X Lf w'/\w'.rangeLeft b r=w.rangeLeft b r:=by
 obtain⟨D,left,cnt,h,k⟩:=h;have h':=h.of_walks hk;exact⟨⟨D,left,cnt,h',k⟩,by rw[h'.left_eq,h.left_eq]⟩
theorem MRan.iter_walk{u}{b r n q}{X Lf}{w}(h:MRan P K R u b r n q X Lf w):∃o:Obj,w.heap[r]?=some o/\o.isWalk=true:=by
 obtain⟨D,left,cnt,h,k⟩:=h;exact h.iter_walk
theorem MRan.start{u D}{b r n}{X}{w:World}(k:Kt P K)(ho:w.ownsMap P K R b n D)(kd:Dat u D X){w'}(h:w'.ranges P K R b r n D (Maps.has D) (Maps.size D)):MRan P K R u b r n 0 X X w':=by
 refine⟨D,_,_,h,kd,fun x hx=>Dat.has kd hx,?_⟩;obtain⟨ms,clock,h1,h2,h3,h4⟩:=ho;subst h4;simp only[Maps.size,length_sorted,List.length_map,Array.length_toList];omega
theorem MRan.step{u D}{b r n q cnt cnt2}{X Lf:Itm->Prop}{w'}{left:Lit->Bool}(k:Kt P K)(kd:Dat u D X)(hl:∀x,W64 x->(left (ik x)=true↔Lf x))(hq:q+cnt<=n){x}(hx:W64 x)
  (h:w'.ranges P K R b r n D (fun z=>left z&& !z.sameKey (ik x)) cnt2) (hc:cnt2<cnt):MRan P K R u b r n (q+1) X (fun y=>Lf y/\y≠x) w':=by
 refine⟨D,_,_,h,kd,fun y hy=>?_,by omega⟩;dsimp only;rw[Bool.and_eq_true,hl y hy];refine and_congr_right fun _=>?_
 constructor
 ·intro e1 e2;subst e2;rw[WideAt.sameKey_self (k.law.key (k.key y hy))]at e1;exact Bool.noConfusion e1
 ·intro e1;rw[sameKey_ne fun e2=>e1 (zM8 hy hx e2)]
  rfl
variable {ops:Array Oper} {rest:List Oper} {o:Oper} {a:Act} {Q:Exit->Act->World->Prop}
theorem zER(w)(hg:o.guard=none)(m)(hop:o.op=Op.range T m)(k:Kt P K)(ht:P.underlying T=some (.map K E))(u)(b n)(X)(hm:a.eval m=.map (some b))(h:MSet P K R u b n X w)
  (hK:∀w',MRan P K R u b w.heap.size n 0 X X w'->w.grownBy w' none->w'.heap.size=w.heap.size+1->wpList P ops Q rest (a.put o.dst (.pointer (some ⟨w.heap.size,0,none⟩))) w'):
  wpList P ops Q (o::rest) a w:=by
 obtain⟨D,ho,kd⟩:=h;exact wpList_range_own w hg m T hop K E k.law ht R b n D hm ho fun w' r1 r2 r3=>hK w' (MRan.start k ho kd r1) r2 r3
theorem zEn(w)(hg:o.guard=none)(it)(hop:o.op=Op.next it false)(k:Kt P K)(b r n q)(X Lf)(hit:a.eval it=.pointer (some ⟨r,0,none⟩))(h:MRan (H:=H) P K unitElem (.agg []) b r n q X Lf w)
  (hDone:Over Lf->wpList P ops Q rest (a.put o.dst (.tuple #[.bool false])) w)
  (hMore:∀(x:Itm) (w':World),W64 x->Lf x->X x->MRan (H:=H) P K unitElem (.agg []) b r n (q+1) X (fun y=>Lf y/\y≠x) w'->w'.rangeLeft b r<w.rangeLeft b r->w.grownBy w' (some r)->w'.heap.size=w.heap.size->
   (Instr.entry (.pointer (some ⟨r,0,none⟩))).run P w'=.ok (.tuple #[iv x,.agg #[]]) w'->wpList P ops Q rest (a.put o.dst (.tuple #[.bool true,iv x,.agg #[]])) w'):
  wpList P ops Q (o::rest) a w:=by
 obtain⟨D,left,cnt,h,kd,hl,hq⟩:=h
 refine wpList_next_ranges w hg it hop K k.law unitElem iv (fun _:Unit=> .agg #[]) (fun key kl hk=>by obtain⟨x,_,e,_⟩:=k.inv key kl hk;exact⟨x,e⟩) (fun v y hv=>⟨(),(unitElem_inv hv).1⟩) b r n D left cnt hit h
  (fun _ hl0=>hDone fun x hx=>by rw[←hl x hx,hl0];exact Bool.noConfusion) ?_
 intro x c kl y w' cnt' hkey hlk hv hat hrg hlt hgr hsz hen;obtain⟨x',hx,e1,rfl⟩:=k.inv _ _ hkey
 obtain rfl:x=x':=by
  have:=e1;unfold iv at this;simp at this;exact Prod.ext this.1 this.2
 exact hMore x w' hx ((hl x hx).1 hlk) ((Dat.has kd hx).1 (has_true_of_atKey hat)) (MRan.step k kd hl hq hx hrg hlt) (by rw[hrg.left_eq,h.left_eq];exact hlt) hgr hsz hen
variable {F:Fence} {m:Nat}
theorem zDa(w)(hg:o.guard=none)(mo)(hop:o.op=Op.range T mo)(k:Kt P K)(ht:P.underlying T=some (.map K E))(u)(b n)(X)(hm:a.eval mo=.map (some b))(h:MSet P K R u b n X w)
  (hK:∀w',MRan P K R u b w.heap.size n 0 X X w'->w.grownBy w' none->w'.heap.size=w.heap.size+1->wpListIn F m P ops Q rest (a.put o.dst (.pointer (some ⟨w.heap.size,0,none⟩))) w'):
  wpListIn F m P ops Q (o::rest) a w:=by
 obtain⟨D,ho,kd⟩:=h;exact wpListIn_range_own w hg mo T hop K E k.law ht R b n D hm ho fun w' r1 r2 r3=>hK w' (MRan.start k ho kd r1) r2 r3
theorem zD5(w)(hg:o.guard=none)(it)(hop:o.op=Op.next it false)(k:Kt P K)(b r n q)(X Lf)(hit:a.eval it=.pointer (some ⟨r,0,none⟩))(h:MRan (H:=H) P K unitElem (.agg []) b r n q X Lf w)
  (hDone:Over Lf->wpListIn F m P ops Q rest (a.put o.dst (.tuple #[.bool false])) w)
  (hMore:∀(x:Itm) (w':World),W64 x->Lf x->X x->MRan (H:=H) P K unitElem (.agg []) b r n (q+1) X (fun y=>Lf y/\y≠x) w'->w'.rangeLeft b r<w.rangeLeft b r->w.grownBy w' (some r)->w'.heap.size=w.heap.size->
   (Instr.entry (.pointer (some ⟨r,0,none⟩))).run P w'=.ok (.tuple #[iv x,.agg #[]]) w'->wpListIn F m P ops Q rest (a.put o.dst (.tuple #[.bool true,iv x,.agg #[]])) w'):
  wpListIn F m P ops Q (o::rest) a w:=by
 obtain⟨D,left,cnt,h,kd,hl,hq⟩:=h
 refine wpListIn_next_ranges w hg it hop K k.law unitElem iv (fun _:Unit=> .agg #[]) (fun key kl hk=>by obtain⟨x,_,e,_⟩:=k.inv key kl hk;exact⟨x,e⟩) (fun v y hv=>⟨(),(unitElem_inv hv).1⟩) b r n D left cnt hit h
  (fun _ hl0=>hDone fun x hx=>by rw[←hl x hx,hl0];exact Bool.noConfusion) ?_
 intro x c kl y w' cnt' hkey hlk hv hat hrg hlt hgr hsz hen;obtain⟨x',hx,e1,rfl⟩:=k.inv _ _ hkey
 obtain rfl:x=x':=by
  have:=e1;unfold iv at this;simp at this;exact Prod.ext this.1 this.2
 exact hMore x w' hx ((hl x hx).1 hlk) ((Dat.has kd hx).1 (has_true_of_atKey hat)) (MRan.step k kd hl hq hx hrg hlt) (by rw[hrg.left_eq,h.left_eq];exact hlt) hgr hsz hen
end
