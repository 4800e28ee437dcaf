/- A part of the proof. -/
import Derived.Test.YtkcaedinfnajaaaGreatDoorPk02
import Derived.ChangeKeys
import Derived.Deep.RegionLaw
set_option linter.unusedVariables false
namespace Go.Proofs.YtkcaedinfnajaaaGreatDoor
namespace Im
open Gr (Gram zAY zAE ofN zBq)
abbrev Itm:=Int×Int
def ltP(a b:Itm):Prop:=a.1<b.1\/(a.1=b.1/\a.2<b.2)
instance (a b:Itm):Decidable (ltP a b):=by unfold ltP;infer_instance
theorem ltP.trans{a b c:Itm}(h:ltP a b)(k:ltP b c):ltP a c:=by
 unfold ltP at*;omega
theorem ltP.ne{a b:Itm}(h:ltP a b):a≠b:=fun e=>by
 subst e;unfold ltP at h;omega
theorem ltP.not{a b:Itm}(h:ltP a b):¬ltP b a:=by
 unfold ltP at*;omega
theorem zRE{a b:Itm}(h:¬ltP a b)(hn:a≠b):ltP b a:=by
 have hn':¬(a.1=b.1/\a.2=b.2):=fun⟨e1,e2⟩=>hn (Prod.ext e1 e2)
 unfold ltP at*;omega
def Srt(l:List Itm):Prop:=l.Pairwise ltP
theorem zN5:Srt []:=List.Pairwise.nil
theorem zFK(x:Itm):Srt [x]:=List.pairwise_singleton _ _
theorem zN4:∀{a b:List Itm},Srt a->Srt b->(∀x,x∈a↔x∈b)->a=b
 |[],[],_,_,_=>rfl
 |[],y::b,_,_,h=>by
  have:=(h y).2 (List.mem_cons_self ..);cases this
 |x::a,[],_,_,h=>by
  have:=(h x).1 (List.mem_cons_self ..);cases this
 |x::a,y::b,ha,hb,h=>by
  have ha':=List.pairwise_cons.1 ha;have hb':=List.pairwise_cons.1 hb
  have e:x=y:=by
   rcases List.mem_cons.1 ((h x).1 (List.mem_cons_self ..))with e|e
   ·exact e
   ·rcases List.mem_cons.1 ((h y).2 (List.mem_cons_self ..))with e'|e'
    ·exact e'.symm
    ·exact absurd (ha'.1 _ e') (hb'.1 _ e).not
  subst e
  congr 1
  refine zN4 ha'.2 hb'.2 fun z=>?_
  constructor
  ·intro hz;rcases List.mem_cons.1 ((h z).1 (List.mem_cons_of_mem _ hz))with e|e
   ·subst e;exact absurd rfl (ha'.1 _ hz).ne
   ·exact e
  ·intro hz;rcases List.mem_cons.1 ((h z).2 (List.mem_cons_of_mem _ hz))with e|e
   ·subst e;exact absurd rfl (hb'.1 _ hz).ne
   ·exact e
def Is(l:List Itm)(P:Itm->Prop):Prop:=Srt l/\∀x,x∈l↔P x
theorem Is.uniq{a b:List Itm}{P:Itm->Prop}(h:Is a P)(k:Is b P):a=b:=zN4 h.1 k.1 fun x=>(h.2 x).trans (k.2 x).symm
theorem Is.iff{a:List Itm}{P Q:Itm->Prop}(h:Is a P)(e:∀x,P x↔Q x):Is a Q:=⟨h.1,fun x=>(h.2 x).trans (e x)⟩
theorem Is.nil{P:Itm->Prop}(h:∀x,¬P x):Is [] P:=⟨zN5,fun x=>⟨fun hx=>(List.not_mem_nil hx).elim,fun hx=>absurd hx (h x)⟩⟩
def putI:List Itm->Itm->List Itm
 |[],x=>[x]
 |y::l,x=>if ltP y x then y::putI l x else if y=x then y::l else x::y::l
theorem zIr{x z:Itm}:∀{l:List Itm},z∈putI l x↔z∈l\/z=x
 |[]=>by simp[putI]
 |y::l=>by
  unfold putI;split
  ·rw[List.mem_cons,zIr,List.mem_cons,or_assoc]
  ·split
   ·rename_i e;subst e;simp only[List.mem_cons];constructor
    ·exact fun h=> .inl h
    ·rintro(h|h)
     ·exact h
     ·exact .inl h
   ·simp only[List.mem_cons];constructor
    ·rintro(h|h|h)
     ·exact .inr h
     ·exact .inl (.inl h)
     ·exact .inl (.inr h)
    ·rintro((h|h)|h)
     ·exact .inr (.inl h)
     ·exact .inr (.inr h)
     ·exact .inl h
theorem zN6{x:Itm}:∀{l:List Itm},Srt l->Srt (putI l x)
 |[],_=>zFK x
 |y::l,h=>by
  have h':=List.pairwise_cons.1 h;unfold putI;split
  ·rename_i hl;refine List.pairwise_cons.2 ⟨fun z hz=>?_,zN6 h'.2⟩;rcases zIr.1 hz with e|e
   ·exact h'.1 _ e
   ·rw[e];exact hl
  ·split
   ·exact h
   ·rename_i hl hn;have hx:=zRE hl hn;refine List.pairwise_cons.2 ⟨fun z hz=>?_,h⟩;rcases List.mem_cons.1 hz with e|e
    ·rw[e];exact hx
    ·exact hx.trans (h'.1 _ e)
def rlen(G:Gram)(r:Int):Nat:=(zAE G r).2.length
def zAJ(G:Gram)(x:Itm):Bool:=zAY G x.1&&decide (0<=x.2/\x.2<=(rlen G x.1:Int))
def behB(G:Gram)(x:Itm):Bool:=zAJ G x&&decide (x.2<(rlen G x.1:Int))
def behV(G:Gram)(x:Itm):Int:=if behB G x then(zAE G x.1).2.getD x.2.toNat 0 else 0
theorem zAQ{G:Gram}{x:Itm}:zAJ G x=true↔(0<=x.1/\x.1<=(G.rules.length:Int))/\(0<=x.2/\x.2<=(rlen G x.1:Int)):=by
 unfold zAJ zAY;rw[Bool.and_eq_true,decide_eq_true_iff,decide_eq_true_iff]
theorem zAo{G:Gram}{x:Itm}:behB G x=true↔zAJ G x=true/\x.2<(rlen G x.1:Int):=by
 unfold behB;rw[Bool.and_eq_true,decide_eq_true_iff]
theorem zLN{G:Gram}{x:Itm}(h:behB G x=true):zAJ G (x.1,x.2+1)=true:=by
 obtain⟨h1,h2⟩:=zAo.1 h;have h3:=zAQ.1 h1;rw[zAQ];exact⟨h3.1,by dsimp only;omega,by dsimp only;omega⟩
theorem zBJ{G:Gram}{r:Nat}(h:r<=G.rules.length):zAJ G ((r:Int),0)=true:=by
 rw[zAQ];exact⟨⟨by dsimp only;omega,by dsimp only;omega⟩,by dsimp only;omega,by dsimp only;omega⟩
inductive Clo (G:Gram) (L:List Itm):Itm->Prop
 |of {x:Itm}:x∈L->zAJ G x=true->Clo G L x
 |next {y:Itm} {r:Nat}:Clo G L y->behB G y=true->r∈ofN G (behV G y)->Clo G L ((r:Int),0)
theorem zAk{G:Gram}{L:List Itm}{x:Itm}(h:Clo G L x):zAJ G x=true:=by
 cases h with
 |of _ h=>exact h
 |next _ _ h=>exact zBJ (Nat.le_of_lt (zBq.1 h).1)
theorem zOv{G:Gram}{L M:List Itm}(k:∀x∈L,x∈M){x:Itm}(h:Clo G L x):Clo G M x:=by
 induction h with
 |of h1 h2=>exact .of (k _ h1) h2
 |next _ h2 h3 ih=>exact .next ih h2 h3
def zLq(G:Gram)(L:List Itm)(s:Int)(x:Itm):Prop:=∃y∈L,behB G y=true/\behV G y=s/\x=(y.1,y.2+1)
theorem zCu{G:Gram}{L:List Itm}{s:Int}{x:Itm}(h:zLq G L s x):zAJ G x=true/\0<x.2:=by
 obtain⟨y,_,h1,_,h2⟩:=h;subst h2;have:=zAQ.1 (zAo.1 h1).1;exact⟨zLN h1,by dsimp only;omega⟩
structure Mid (G:Gram) (L out:List Itm):Prop where
 srt:Srt out
 all:∀x∈L,zAJ G x=true->x∈out
 sub:∀x∈out,Clo G L x
theorem Mid.start{G:Gram}{L out:List Itm}(h:Is out (fun x=>x∈L/\zAJ G x=true)):Mid G L out:=
 ⟨h.1,fun x h1 h2=>(h.2 x).2 ⟨h1,h2⟩,fun x hx=> .of ((h.2 x).1 hx).1 ((h.2 x).1 hx).2⟩
def Shut(G:Gram)(out:List Itm):Prop:=∀y∈out,behB G y=true->∀r∈ofN G (behV G y),((r:Int),(0:Int))∈out
theorem Mid.done{G:Gram}{L out:List Itm}(m:Mid G L out)(h:Shut G out):Is out (Clo G L):=by
 refine⟨m.srt,fun x=>⟨m.sub x,fun k=>?_⟩⟩
 induction k with
 |of h1 h2=>exact m.all _ h1 h2
 |next _ h2 h3 ih=>exact h _ ih h2 _ h3
def allI(G:Gram):List Itm:=(List.range (G.rules.length+1)).flatMap fun(r:Nat)=>(List.range (rlen G (r:Int)+1)).map fun(d:Nat)=>((r:Int),(d:Int))
theorem zCM{G:Gram}{x:Itm}(h:zAJ G x=true):x∈allI G:=by
 obtain⟨⟨h1,h2⟩,h3,h4⟩:=zAQ.1 h;obtain⟨r,d⟩:=x;dsimp only at h1 h2 h3 h4;obtain⟨r,rfl⟩:=Int.eq_ofNat_of_zero_le h1;obtain⟨d,rfl⟩:=Int.eq_ofNat_of_zero_le h3;unfold allI;rw[List.mem_flatMap];exact⟨r,List.mem_range.2 (by omega),List.mem_map.2 ⟨d,List.mem_range.2 (by omega),rfl⟩⟩
theorem zH4{l:List Itm}(h:Srt l):l.Nodup:=h.imp fun k=>k.ne
theorem zDW:∀{l M:List Itm},l.Nodup->(∀x∈l,x∈M)->l.length<=M.length
 |[],_,_,_=>Nat.zero_le _
 |x::l,M,h,k=>by
  have h':=List.nodup_cons.1 h;have hx:=k x (List.mem_cons_self ..);have:=zDW (M:=M.erase x) h'.2 fun z hz=>(List.mem_erase_of_ne (fun e=>h'.1 (by rw[←e];exact hz))).2 (k z (List.mem_cons_of_mem _ hz))
  rw[List.length_erase_of_mem hx]at this;have:=List.length_pos_of_mem hx;rw[List.length_cons];omega
theorem zGr{G:Gram}{l:List Itm}(h:Srt l)(k:∀x∈l,zAJ G x=true):l.length<=(allI G).length:=
 zDW (zH4 h) fun x hx=>zCM (k x hx)
def adds(out:List Itm)(rs:List Nat):List Itm:=rs.foldl (fun l (r:Nat)=>putI l ((r:Int),0)) out
theorem zGc{x:Itm}:∀{rs:List Nat} {out:List Itm},x∈adds out rs↔x∈out\/∃r∈rs,x=((r:Int),0)
 |[],out=>by simp[adds]
 |r::rs,out=>by
  show x∈adds (putI out ((r:Int),0)) rs↔_;rw[zGc,zIr];simp only[List.mem_cons];constructor
  ·rintro((h|h)|⟨q,h1,h2⟩)
   ·exact .inl h
   ·exact .inr ⟨r,.inl rfl,h⟩
   ·exact .inr ⟨q,.inr h1,h2⟩
  ·rintro(h|⟨q,rfl|h1,h2⟩)
   ·exact .inl (.inl h)
   ·exact .inl (.inr h2)
   ·exact .inr ⟨q,h1,h2⟩
theorem zKC:∀{rs:List Nat} {out:List Itm},Srt out->Srt (adds out rs)
 |[],_,h=>h
 |r::rs,out,h=>by
  show Srt (adds (putI out ((r:Int),0)) rs);exact zKC (zN6 h)
theorem Mid.adds{G:Gram}{L out:List Itm}(m:Mid G L out){y:Itm}(hy:Clo G L y)(hb:behB G y=true):Mid G L (adds out (ofN G (behV G y))):=
 ⟨zKC m.srt,fun x h1 h2=>zGc.2 (.inl (m.all x h1 h2)),fun x hx=>by
  rcases zGc.1 hx with e|⟨r,hr,rfl⟩
  ·exact m.sub x e
  ·exact .next hy hb hr⟩
theorem zRj{G:Gram}{B:Nat}(h:∀r:Nat,r<=G.rules.length->rlen G (r:Int)<=B):(allI G).length<=(G.rules.length+1)*(B+1):=by
 unfold allI
 have:∀n,n<=G.rules.length+1->((List.range n).flatMap fun(r:Nat)=>(List.range (rlen G (r:Int)+1)).map fun(d:Nat)=>((r:Int),(d:Int))).length<=n*(B+1):=fun n=>by
  induction n with
  |zero=>simp
  |succ n ih=>
   intro hn;rw[List.range_succ,List.flatMap_append,List.length_append];have h1:=ih (by omega);have h2:=h n (by omega);simp only[List.flatMap_cons,List.flatMap_nil,List.append_nil,List.length_map,List.length_range];rw[Nat.succ_mul];omega
 exact this _ (Nat.le_refl _)
end Im
namespace Im
open Go.RowKit Go.Maps
def W64(x:Itm):Prop:=(Lit.int .i64 x.1).wf=true/\(Lit.int .i64 x.2).wf=true
def iv(x:Itm):Value:=.agg #[.int .i64 x.1,.int .i64 x.2]
def ik(x:Itm):Lit:=.string (keyBytes [.int .i64 x.1,.int .i64 x.2])
theorem zMl{x y:Itm}(hx:W64 x)(hy:W64 y)(h:ik x=ik y):x=y:=by
 unfold ik at h;simp only[Lit.string.injEq]at h
 have:=keyBytes_inj (l:=[.int .i64 x.1,.int .i64 x.2]) (l':=[.int .i64 y.1,.int .i64 y.2]) (by simp[Alike,Lit.sameKind])
  (fun a ha=>by
   simp only[List.mem_cons,List.not_mem_nil,or_false]at ha;rcases ha with rfl|rfl
   ·exact hx.1
   ·exact hx.2)
  (fun a ha=>by
   simp only[List.mem_cons,List.not_mem_nil,or_false]at ha;rcases ha with rfl|rfl
   ·exact hy.1
   ·exact hy.2) h
 simp at this;exact Prod.ext this.1 this.2
structure Kt (P:Program) (K:TypeId):Prop where
 law:Keyed P K
 key:∀x,W64 x->keyOf P K (iv x)=some (ik x)
 inv:∀key kl,keyOf P K key=some kl->∃x,W64 x/\key=iv x/\kl=ik x
theorem zJj{P:Program}{d:Nat}{t:TypeId}{v:Value}{l:List Lit}(hu:P.underlying t=some (.int .i64))(h:P.keyLits (d+1) t [v]=some l):∃n,v=.int .i64 n/\(Lit.int .i64 n).wf=true/\l=[.int .i64 n]:=by
 unfold Program.keyLits at h;rw[hu]at h;cases v<;>simp at h
 obtain⟨⟨rfl,hw⟩,rfl⟩:=h;exact⟨_,rfl,hw,rfl⟩
theorem zVF{P:Program}{K:TypeId}(fa fb:Field)(law:Keyed P K)(hu:P.underlying K=some (.struct #[fa,fb]))(ha:P.underlying fa.type=some (.int .i64))(hb:P.underlying fb.type=some (.int .i64))(hkt:P.keyType K=true)(hcells:P.cellsOf K=2)
  (ca:P.cellsOf fa.type=1) (cb:P.cellsOf fb.type=1) (oa:fa.offset=0) (ob:fb.offset=1) (na:(fa.name != "_")=true) (nb:(fb.name != "_")=true) (n:Nat) (hn:P.types.size=n+1):Kt P K:=by
 refine⟨law,fun x hx=>?_,fun key kl h=>?_⟩
 ·unfold keyOf iv;rw[hu];simp only[hkt,Bool.true_and];rw[if_pos (by simp[Value.formed,hu,hcells])];rw[hn];simp[Program.keyLits,hu,hcells,ca,cb,oa,ob,ha,hb,na,nb,hx.1,hx.2,Value.cells,ik]
 ·unfold keyOf at h;rw[hu]at h;simp only[hkt,Bool.true_and]at h;split at h
  ·rename_i hf;rw[Option.map_eq_some_iff]at h;obtain⟨ls,hls,rfl⟩:=h;cases key<;>simp[Value.formed,hu,hcells]at hf
   rename_i cs;obtain⟨cs⟩:=cs;rcases cs with _|⟨a,_|⟨b,_|⟨c,cs⟩⟩⟩<;>simp at hf
   rw[hn]at hls;unfold Program.keyLits at hls;rw[hu]at hls;simp[hcells,ca,cb,oa,ob,na,nb,Value.cells]at hls;cases h1:P.keyLits (n+1) fa.type [a]with
   |none=>rw[h1]at hls;simp at hls
   |some l1=>
    cases h2:P.keyLits (n+1) fb.type [b]with
    |none=>rw[h1,h2]at hls;simp at hls
    |some l2=>
     rw[h1,h2]at hls;obtain⟨x,rfl,wx,rfl⟩:=zJj ha h1;obtain⟨y,rfl,wy,rfl⟩:=zJj hb h2;simp at hls;subst hls;exact⟨(x,y),⟨wx,wy⟩,rfl,rfl⟩
  ·cases h
section
variable {H:Type} {P:Program} {K T E:TypeId} {R:Value->Option (DataW H×List MemPlace)}
def MSet(P:Program)(K:TypeId)(R:Value->Option (DataW H×List MemPlace))(u:DataW H)(b n:Nat)(X:Itm->Prop)(w:World):Prop:=
 ∃D:DataW H,w.ownsMap P K R b n D/\∀x,W64 x->(X x/\∀z,D.atKey (ik x) z=u)\/(¬X x/\∀z,D.atKey (ik x) z=z)
theorem MSet.made(w:World)(P:Program)(K:TypeId)(R:Value->Option (DataW H×List MemPlace))(u:DataW H):MSet P K R u w.heap.size 0 (fun _=>False) (w.alloc (.map #[] 0)):=
 ⟨_,World.ownsMap_made w P K R,fun x _=> .inr ⟨id,fun z=>rfl⟩⟩
theorem MSet.lt{u:DataW H}{b n:Nat}{X:Itm->Prop}{w:World}(h:MSet P K R u b n X w):b<w.heap.size:=by
 obtain⟨D,h,_⟩:=h;exact h.lt
theorem MSet.mono{u:DataW H}{b n n':Nat}{X:Itm->Prop}{w:World}(h:MSet P K R u b n X w)(hn:n<=n'):MSet P K R u b n' X w:=by
 obtain⟨D,h,k⟩:=h;exact⟨D,h.mono hn,k⟩
theorem MSet.iff{u:DataW H}{b n:Nat}{X Y:Itm->Prop}{w:World}(h:MSet P K R u b n X w)(e:∀x,W64 x->(X x↔Y x)):MSet P K R u b n Y w:=by
 obtain⟨D,h,k⟩:=h;exact⟨D,h,fun x hx=>(k x hx).imp (fun q=>⟨(e x hx).1 q.1,q.2⟩) (fun q=>⟨fun y=>q.1 ((e x hx).2 y),q.2⟩)⟩
theorem MSet.keep{u:DataW H}{b n:Nat}{X:Itm->Prop}{w w':World}(h:MSet P K R u b n X w)(hb:w'.heap[b]?=w.heap[b]?):MSet P K R u b n X w':=by
 obtain⟨D,⟨es,clock,h1,h2⟩,k⟩:=h;exact⟨D,⟨es,clock,hb.trans h1,h2⟩,k⟩
theorem MSet.went{u:DataW H}{b n:Nat}{X:Itm->Prop}{w w':World}(h:MSet P K R u b n X w)(hb:Below w.heap.size w w'):MSet P K R u b n X w':=h.keep (hb.block b h.lt)
theorem MSet.look_ok{u:DataW H}{b n:Nat}{X:Itm->Prop}{w:World}(h:MSet P K R u b n X w)(k:Kt P K)(ht:P.underlying T=some (.map K E)){z:Value}(hz:(zeroValue E).run P w=.ok z w){zd:DataW H}{zp:List MemPlace}(hzd:R z=some (zd,zp)){x:Itm}(hx:W64 x):
  ∃(c:Bool) (v:Value) (ps:List MemPlace),(c=true↔X x)/\(Instr.lookup T (.map (some b)) (iv x) true).run P w=.ok (.tuple #[v,.bool c]) w/\R v=some (if c then u else zd,ps):=by
 obtain⟨D,ho,kd⟩:=h;obtain⟨v,ps,hrun,hR⟩:=ho.look_ok k.law ht hz hzd (k.key x hx);rcases kd x hx with⟨q,hat⟩|⟨q,hat⟩
 ·rw[Maps.has_true_of_atKey hat]at hrun;exact⟨true,v,ps,⟨fun _=>q,fun _=>rfl⟩,hrun,by rw[hR,hat];rfl⟩
 ·rw[Maps.has_false_of_atKey hat]at hrun;exact⟨false,v,ps,⟨fun e=>Bool.noConfusion e,fun e=>absurd e q⟩,hrun,by rw[hR,hat];rfl⟩
theorem MSet.store{u:DataW H}{b n:Nat}{X:Itm->Prop}{w:World}(h:MSet P K R u b n X w)(k:Kt P K)(ht:P.underlying T=some (.map K E))(hn:n<maxLen){v:Value}{ps:List MemPlace}(hv:R v=some (u,ps)){x:Itm}(hx:W64 x):
  ∃w',(Instr.mapUpdate T (.map (some b)) (iv x) v).run P w=.ok () w'/\MSet P K R u b (n+1) (fun y=>X y\/y=x) w'/\w.mapTurned w' b:=by
 obtain⟨D,ho,kd⟩:=h;obtain⟨w',hrun,h1,h2⟩:=ho.store k.law ht hn (k.key x hx) hv;refine⟨w',hrun,⟨_,h1,fun y hy=>?_⟩,h2⟩
 by_cases e:y=x
 ·subst e;exact .inl ⟨.inr rfl,fun z=>Maps.atKey_put_same ho.isMap (k.law.key (k.key y hy)) u z⟩
 ·have hne:ik y≠ik x:=fun q=>e (zMl hy hx q)
  rcases kd y hy with⟨q,hat⟩|⟨q,hat⟩
  ·exact .inl ⟨.inl q,fun z=>(Maps.atKey_put_other hne u z).trans (hat z)⟩
  ·exact .inr ⟨fun r=>r.elim q e,fun z=>(Maps.atKey_put_other hne u z).trans (hat z)⟩
theorem zIA{o:Oper}{a:Act}{K':Act->World->Prop}{Q:Exit->Act->World->Prop}(w:World)(m y:Operand)(hop:o.op=Op.lookup T m y true)(k:Kt P K)(ht:P.underlying T=some (.map K E))
  (hz:(zeroValue E).run P w=.ok (.agg #[]) w) (b n:Nat) (X:Itm->Prop) (hm:a.eval m=.map (some b)) (h:MSet (H:=H) P K unitElem (.agg []) b n X w) (x:Itm) (hy:a.eval y=iv x) (hx:W64 x)
  (hK:∀c:Bool,(c=true↔X x)->K' (a.put o.dst (.tuple #[.agg #[],.bool c])) w):o.wp P a w K' Q:=by
 obtain⟨c,v,ps,hc,hrun,hR⟩:=h.look_ok k ht hz unitElem_mk hx;obtain⟨rfl,_⟩:=unitElem_inv hR;unfold Oper.wp;simp[execOp,hop,hm,hy,hrun,Result.andThen];exact hK c hc
theorem zJC{o:Oper}{a:Act}{K':Act->World->Prop}{Q:Exit->Act->World->Prop}(w:World)(m y v:Operand)(hop:o.op=Op.mapUpdate T m y v)(k:Kt P K)(ht:P.underlying T=some (.map K E))
  (u:DataW H) (b n:Nat) (X:Itm->Prop) (hm:a.eval m=.map (some b)) (h:MSet P K R u b n X w) (hn:n<maxLen) (x:Itm) (hy:a.eval y=iv x) (hx:W64 x) (ps:List MemPlace) (hv:R (a.eval v)=some (u,ps))
  (hK:∀w',MSet P K R u b (n+1) (fun y=>X y\/y=x) w'->w.mapTurned w' b->K' (a.put o.dst undef) w'):o.wp P a w K' Q:=by
 obtain⟨w',hrun,h1,h2⟩:=h.store k ht hn hv hx;unfold Oper.wp;simp[execOp,hop,hm,hy,hrun,Result.andThen];exact hK w' h1 h2
theorem zEC{ops:Array Oper}{rest:List Oper}{o:Oper}{a:Act}{w:World}{Q:Exit->Act->World->Prop}(hg:o.guard=none)(h:∀K':Act->World->Prop,(∀a' w',wpList P ops Q rest a' w'->K' a' w')->o.wp P a w K' Q):wpList P ops Q (o::rest) a w:=
 wpList_plain hg fun K' hK=>h K' hK
end
end Im
namespace Fi
open Gr (Gram nonB zEG zAy)
inductive Can (G:Gram):Int->Prop
 |mk (r:Int×List Int):r∈G.rules->(∀y∈r.2,Can G y)->Can G r.1
inductive Fst (G:Gram):Int->Int->Prop
 |leaf {x:Int}:x=0\/zEG G x=true->Fst G x x
 |rule {r:Int×List Int} {pre:List Int} {y:Int} {post:List Int} {t:Int}:r∈G.rules->r.2=pre++y::post->(∀z∈pre,Can G z)->Fst G y t->Fst G r.1 t
def zCv(G:Gram)(l:List Int)(t:Int):Prop:=∃pre y post,l=pre++y::post/\(∀z∈pre,Can G z)/\Fst G y t
inductive Fol (G:Gram):Int->Int->Prop
 |start:Fol G G.start 0
 |next {r:Int×List Int} {pre:List Int} {x:Int} {post:List Int} {t:Int}:r∈G.rules->r.2=pre++x::post->nonB G x=true->zCv G post t->Fol G x t
 |last {r:Int×List Int} {pre:List Int} {x:Int} {post:List Int} {t:Int}:r∈G.rules->r.2=pre++x::post->nonB G x=true->(∀z∈post,Can G z)->Fol G r.1 t->Fol G x t
theorem zEt{G:Gram}{t:Int}:¬zCv G [] t:=fun⟨pre,y,post,h,_⟩=>by
 cases pre<;>cases h
theorem zCp{G:Gram}{y:Int}{l:List Int}{t:Int}:zCv G (y::l) t↔Fst G y t\/(Can G y/\zCv G l t):=by
 constructor
 ·rintro⟨pre,z,post,h,hc,hf⟩;cases pre with
  |nil=>
   injection h with h1 h2
   subst h1;exact .inl hf
  |cons a pre=>
   injection h with h1 h2
   subst h1;exact .inr ⟨hc _ (List.mem_cons_self ..),pre,z,post,h2,fun w hw=>hc w (List.mem_cons_of_mem _ hw),hf⟩
 ·rintro(h|⟨h1,pre,z,post,h2,h3,h4⟩)
  ·exact⟨[],y,l,rfl,(fun z hz=>by cases hz),h⟩
  ·refine⟨y::pre,z,post,by rw[h2];rfl,fun w hw=>?_,h4⟩;rcases List.mem_cons.1 hw with e|e
   ·subst e;exact h1
   ·exact h3 w e
theorem Fst.line{G:Gram}{r:Int×List Int}{t:Int}(hr:r∈G.rules)(h:zCv G r.2 t):Fst G r.1 t:=by
 obtain⟨pre,y,post,h1,h2,h3⟩:=h;exact .rule hr h1 h2 h3
theorem zMb{G:Gram}{x t:Int}(h:Fst G x t):0<=t/\t<=(G.terms.length:Int):=by
 induction h with
 |leaf h=>
  rcases h with h|h
  ·omega
  ·have:=zAy.1 h;omega
 |rule _ _ _ _ ih=>exact ih
theorem zB8{G:Gram}{l:List Int}{t:Int}(h:zCv G l t):0<=t/\t<=(G.terms.length:Int):=by
 obtain⟨_,_,_,_,_,h⟩:=h;exact zMb h
theorem zMX{G:Gram}{x t:Int}(h:Fol G x t):0<=t/\t<=(G.terms.length:Int):=by
 induction h with
 |start=>omega
 |next _ _ _ h=>exact zB8 h
 |last _ _ _ _ _ ih=>exact ih
def allC(C:Int->Bool)(l:List Int):Bool:=l.all C
def zAe(C:Int->Bool)(F:Int->Int->Bool):List Int->Int->Bool
 |[],_=>false
 |y::l,t=>F y t||(C y&&zAe C F l t)
theorem zCG{C:Int->Bool}{l:List Int}:allC C l=true↔∀z∈l,C z=true:=by
 unfold allC;exact List.all_eq_true
theorem zB6{C:Int->Bool}{F:Int->Int->Bool}{l:List Int}{t:Int}:zAe C F l t=true↔∃pre y post,l=pre++y::post/\(∀z∈pre,C z=true)/\F y t=true:=by
 induction l with
 |nil=>
  constructor
  ·intro h;cases h
  ·rintro⟨pre,y,post,h,_⟩;cases pre<;>cases h
 |cons a l ih=>
  unfold zAe;rw[Bool.or_eq_true,Bool.and_eq_true,ih];constructor
  ·rintro(h|⟨h1,pre,z,post,h2,h3,h4⟩)
   ·exact⟨[],a,l,rfl,(fun z hz=>by cases hz),h⟩
   ·refine⟨a::pre,z,post,by rw[h2];rfl,fun w hw=>?_,h4⟩;rcases List.mem_cons.1 hw with e|e
    ·subst e;exact h1
    ·exact h3 w e
  ·rintro⟨pre,z,post,h,hc,hf⟩;cases pre with
   |nil=>
    injection h with h1 h2
    subst h1;exact .inl hf
   |cons b pre=>
    injection h with h1 h2
    subst h1;exact .inr ⟨hc _ (List.mem_cons_self ..),pre,z,post,h2,fun w hw=>hc w (List.mem_cons_of_mem _ hw),hf⟩
structure Snd (G:Gram) (C:Int->Bool) (F:Int->Int->Bool):Prop where
 can:∀x,C x=true->Can G x
 fst:∀x t,F x t=true->Fst G x t
def Leaf(G:Gram)(F:Int->Int->Bool):Prop:=∀x,x=0\/zEG G x=true->F x x=true
structure Shut (C:Int->Bool) (F:Int->Int->Bool) (r:Int×List Int):Prop where
 can:allC C r.2=true->C r.1=true
 fst:∀t,zAe C F r.2 t=true->F r.1 t=true
theorem Snd.line{G:Gram}{C:Int->Bool}{F:Int->Int->Bool}(h:Snd G C F){l:List Int}{t:Int}(hl:zAe C F l t=true):zCv G l t:=by
 obtain⟨pre,y,post,h1,h2,h3⟩:=zB6.1 hl;exact⟨pre,y,post,h1,fun z hz=>h.can z (h2 z hz),h.fst y t h3⟩
structure Just (G:Gram) (C:Int->Bool) (F:Int->Int->Bool):Prop where
 can:∀x,C x=true↔Can G x
 fst:∀x t,F x t=true↔Fst G x t
theorem zM0{G:Gram}{C:Int->Bool}{F:Int->Int->Bool}(h:Snd G C F)(hl:Leaf G F)(hs:∀r∈G.rules,Shut C F r):Just G C F:=by
 have hc:∀x,Can G x->C x=true:=fun x k=>by
  induction k with
  |mk r hr _ ih=>exact(hs r hr).can (zCG.2 fun z hz=>ih z hz)
 refine⟨fun x=>⟨h.can x,hc x⟩,fun x t=>⟨h.fst x t,fun k=>?_⟩⟩
 induction k with
 |leaf k=>exact hl _ k
 |rule hr h1 h2 _ ih=>exact(hs _ hr).fst _ (zB6.2 ⟨_,_,_,h1,fun z hz=>hc z (h2 z hz),ih⟩)
theorem Just.all{G:Gram}{C:Int->Bool}{F:Int->Int->Bool}(h:Just G C F)(l:List Int):allC C l=true↔∀z∈l,Can G z:=by
 rw[zCG];exact⟨fun k z hz=>(h.can z).1 (k z hz),fun k z hz=>(h.can z).2 (k z hz)⟩
theorem Just.line{G:Gram}{C:Int->Bool}{F:Int->Int->Bool}(h:Just G C F)(l:List Int)(t:Int):zAe C F l t=true↔zCv G l t:=by
 rw[zB6];constructor
 ·rintro⟨pre,y,post,h1,h2,h3⟩;exact⟨pre,y,post,h1,fun z hz=>(h.can z).1 (h2 z hz),(h.fst y t).1 h3⟩
 ·rintro⟨pre,y,post,h1,h2,h3⟩;exact⟨pre,y,post,h1,fun z hz=>(h.can z).2 (h2 z hz),(h.fst y t).2 h3⟩
def addC(C:Int->Bool)(r:Int×List Int):Int->Bool:=fun x=>C x||(decide (x=r.1)&&allC C r.2)
def addF(C:Int->Bool)(F:Int->Int->Bool)(r:Int×List Int):Int->Int->Bool:=fun x t=>F x t||(decide (x=r.1)&&zAe C F r.2 t)
theorem Snd.addF{G:Gram}{C:Int->Bool}{F:Int->Int->Bool}(h:Snd G C F){r:Int×List Int}(hr:r∈G.rules):Snd G C (addF C F r):=by
 refine⟨h.can,fun x t k=>?_⟩;unfold Fi.addF at k;rw[Bool.or_eq_true,Bool.and_eq_true,decide_eq_true_iff]at k;rcases k with k|⟨e,k⟩
 ·exact h.fst x t k
 ·subst e;exact .line hr (h.line k)
theorem zG0{C:Int->Bool}{r:Int×List Int}(h:allC C r.2=true->C r.1=true):addC C r=C:=by
 funext x
 unfold addC
 by_cases e:x=r.1
 ·subst e;cases ha:allC C r.2 with
  |false=>simp
  |true=>simp[h ha]
 ·simp[e]
theorem zLw{C:Int->Bool}{F:Int->Int->Bool}{r:Int×List Int}(h:∀t,zAe C F r.2 t=true->F r.1 t=true):addF C F r=F:=by
 funext x t
 unfold addF
 by_cases e:x=r.1
 ·subst e;cases ha:zAe C F r.2 t with
  |false=>simp
  |true=>simp[h t ha]
 ·simp[e]
structure BSnd (G:Gram) (B:Int->Int->Bool):Prop where
 fol:∀x t,B x t=true->Fol G x t
def zTe(G:Gram)(C:Int->Bool)(F B:Int->Int->Bool)(r:Int×List Int):Prop:=
 ∀pre x post,r.2=pre++x::post->nonB G x=true->(∀t,zAe C F post t=true->B x t=true)/\(allC C post=true->∀t,B r.1 t=true->B x t=true)
theorem zL4{G:Gram}{C:Int->Bool}{F B:Int->Int->Bool}(j:Just G C F)(h:BSnd G B)(h0:B G.start 0=true)(hs:∀r∈G.rules,zTe G C F B r):∀x t,B x t=true↔Fol G x t:=fun x t=>by
 refine⟨h.fol x t,fun k=>?_⟩
 induction k with
 |start=>exact h0
 |next hr h1 h2 h3=>exact(hs _ hr _ _ _ h1 h2).1 _ ((j.line _ _).2 h3)
 |last hr h1 h2 h3 _ ih=>exact(hs _ hr _ _ _ h1 h2).2 ((j.all _).2 h3) _ ih
theorem BSnd.put{G:Gram}{B:Int->Int->Bool}(h:BSnd G B){x:Int}{P:Int->Bool}(hP:∀t,P t=true->Fol G x t):BSnd G (fun y t=>B y t||(decide (y=x)&&P t)):=by
 refine⟨fun y t k=>?_⟩;rw[Bool.or_eq_true,Bool.and_eq_true,decide_eq_true_iff]at k;rcases k with k|⟨e,k⟩
 ·exact h.fol y t k
 ·subst e;exact hP t k
noncomputable def canB(G:Gram)(x:Int):Bool:=@decide (Can G x) (Classical.propDecidable _)
noncomputable def fstB(G:Gram)(x t:Int):Bool:=@decide (Fst G x t) (Classical.propDecidable _)
noncomputable def folB(G:Gram)(x t:Int):Bool:=@decide (Fol G x t) (Classical.propDecidable _)
theorem zBL{G:Gram}{x:Int}:canB G x=true↔Can G x:=by unfold canB;exact @decide_eq_true_iff _ (Classical.propDecidable _)
theorem zDO{G:Gram}{x t:Int}:fstB G x t=true↔Fst G x t:=by unfold fstB;exact @decide_eq_true_iff _ (Classical.propDecidable _)
theorem zPC{G:Gram}{x t:Int}:folB G x t=true↔Fol G x t:=by unfold folB;exact @decide_eq_true_iff _ (Classical.propDecidable _)
theorem zRB(G:Gram):Just G (canB G) (fstB G):=⟨fun _=>zBL,fun _ _=>zDO⟩
theorem Just.eq{G:Gram}{C:Int->Bool}{F:Int->Int->Bool}(h:Just G C F):C=canB G/\F=fstB G:=by
 constructor
 ·funext x
  rw[Bool.eq_iff_iff,h.can,zBL]
 ·funext x t
  rw[Bool.eq_iff_iff,h.fst,zDO]
def lst(P:Int->Bool)(n:Nat):List Int:=((List.range n).filter fun i:Nat=>P (i:Int)).map fun i:Nat=>(i:Int)
theorem zDu{P:Int->Bool}{n:Nat}{t:Int}:t∈lst P n↔0<=t/\t<(n:Int)/\P t=true:=by
 unfold lst;rw[List.mem_map];constructor
 ·rintro⟨i,hi,rfl⟩;rw[List.mem_filter,List.mem_range]at hi;exact⟨by omega,by omega,hi.2⟩
 ·rintro⟨h0,h1,h2⟩;have e:((t.toNat:Nat):Int)=t:=by omega
  exact⟨t.toNat,by rw[List.mem_filter,List.mem_range];exact⟨by omega,by rw[e];exact h2⟩,e⟩
theorem zNF(P:Int->Bool)(n:Nat):(lst P n).length<=n:=by
 unfold lst;rw[List.length_map];exact Nat.le_trans (List.length_filter_le _ _) (by simp)
theorem zPm{P:Int->Bool}{n:Nat}(h:∀i:Nat,i<n->P (i:Int)=false):lst P n=[]:=by
 rw[List.eq_nil_iff_forall_not_mem];intro t ht;obtain⟨h0,h1,h2⟩:=zDu.1 ht;have:=h t.toNat (by omega);have e:((t.toNat:Nat):Int)=t:=by omega
 rw[e,h2]at this;cases this
def zCx(P:Int->Bool):Nat->Nat
 |0=>0
 |n+1=>zCx P n+if P (n:Int)=true then 0 else 1
theorem zGd{P Q:Int->Bool}{n:Nat}(h:∀i:Nat,i<n->P (i:Int)=true->Q (i:Int)=true):zCx Q n<=zCx P n:=by
 induction n with
 |zero=>exact Nat.le_refl _
 |succ n ih=>
  have h1:=ih fun i hi=>h i (by omega)
  unfold zCx
  by_cases hp:P (n:Int)=true
  ·rw[if_pos hp,if_pos (h n (by omega) hp)];exact h1
  ·rw[if_neg hp];split<;>omega
theorem zGe{P Q:Int->Bool}{n k:Nat}(h:∀i:Nat,i<n->P (i:Int)=true->Q (i:Int)=true)(hk:k<n)(hp:P (k:Int)=false)(hq:Q (k:Int)=true):zCx Q n<zCx P n:=by
 induction n with
 |zero=>omega
 |succ n ih=>
  unfold zCx
  by_cases e:k=n
  ·subst e;have h1:=zGd (n:=k) fun i hi=>h i (by omega)
   rw[if_pos hq,if_neg (by rw[hp];decide)];omega
  ·have h1:=ih (fun i hi=>h i (by omega)) (by omega)
   by_cases hp2:P (n:Int)=true
   ·rw[if_pos hp2,if_pos (h n (by omega) hp2)];exact h1
   ·rw[if_neg hp2];split<;>omega
def zCy(F:Int->Int->Bool)(m:Nat):Nat->Nat
 |0=>0
 |n+1=>zCy F m n+zCx (F (n:Int)) m
theorem zPu{F H:Int->Int->Bool}{m n:Nat}(h:∀x t:Nat,x<n->t<m->F (x:Int) (t:Int)=true->H (x:Int) (t:Int)=true):zCy H m n<=zCy F m n:=by
 induction n with
 |zero=>exact Nat.le_refl _
 |succ n ih=>exact Nat.add_le_add (ih fun x t hx=>h x t (by omega)) (zGd fun t ht=>h n t (by omega) ht)
theorem zJp{F H:Int->Int->Bool}{m n k:Nat}(h:∀x t:Nat,x<n->t<m->F (x:Int) (t:Int)=true->H (x:Int) (t:Int)=true)(hk:k<n)(hr:zCx (H (k:Int)) m<zCx (F (k:Int)) m):zCy H m n<zCy F m n:=by
 induction n with
 |zero=>omega
 |succ n ih=>
  show zCy H m n+zCx (H (n:Int)) m<zCy F m n+zCx (F (n:Int)) m
  by_cases e:k=n
  ·subst e;have:=zPu (F:=F) (H:=H) (m:=m) (n:=k) fun x t hx=>h x t (by omega)
   omega
  ·have h1:=ih (fun x t hx=>h x t (by omega)) (by omega);have h2:=zGd (P:=F (n:Int)) (Q:=H (n:Int)) (n:=m) fun t ht=>h n t (by omega) ht
   omega
