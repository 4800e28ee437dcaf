/- A part of the proof. -/
import Derived.Test.YtegeamggbglneaaGreatDoorPk10
import Derived.Test.YtegeamggbglneaaGreatDoorPk16
set_option linter.unusedVariables false
namespace Go.Proofs.YtegeamggbglneaaGreatDoor
namespace Lk
open Gr (Gram checkN zAl zAF zAY ofN top zBy zA4 zBe zBM zA1 zAa)
open Im
open Au
open Fi (zDG)
def byTo(G:Gram)(s:Int)(m:Nat):List Nat:=(List.range m).filter fun k=>(zAF G (k:Int)).1==s
def byL(G:Gram)(s:Int):List Nat:=byTo G s (G.rules.length+1)
theorem zPN{G}{s}{m:Nat}(h:(zAF G (m:Int)).1=s):byTo G s (m+1)=byTo G s m++[m]:=by
 simp[byTo,List.range_succ,List.filter_append,h]
theorem zMV{G}{s}{m:Nat}(h:(zAF G (m:Int)).1≠s):byTo G s (m+1)=byTo G s m:=by
 simp[byTo,List.range_succ,List.filter_append,h]
theorem zJs(G)(s)(m):(byTo G s m).length<=m:=by
 unfold byTo;have:=List.length_filter_le (fun k:Nat=>(zAF G (k:Int)).1==s) (List.range m)
 simpa using this
theorem zQL{G}{s}{m k}:k∈byTo G s m↔k<m/\(zAF G (k:Int)).1=s:=by
 simp[byTo]
theorem zBx{G}{s}{k}:k∈byL G s↔k<=G.rules.length/\(zAF G (k:Int)).1=s:=by
 unfold byL;rw[zQL];omega
theorem zK3(G)(s)(m):(byTo G s m).Nodup:=List.Pairwise.filter _ List.nodup_range
theorem zHf{G}{s}(hs:s≠0){k}:k∈byL G s↔k∈ofN G s:=by
 rw[zBx,zBy];constructor
 ·rintro⟨h1,h2⟩
  by_cases e:k=G.rules.length
  ·subst e;rw[(zA1 G).2]at h2;exact absurd h2.symm hs
  ·have hk:k<G.rules.length:=by omega
   rw[(zBM hk).2]at h2;exact⟨hk,by rw[zA4 hk];exact h2⟩
 ·rintro⟨h1,h2⟩;rw[zA4 h1]at h2;exact⟨Nat.le_of_lt h1,by rw[(zBM h1).2];exact h2⟩
theorem zBB{G}(hv:checkN G=0){k}(hk:k<=G.rules.length):(k=G.rules.length/\(zAF G (k:Int)).1=0)\/(k<G.rules.length/\(G.terms.length:Int)<(zAF G (k:Int)).1/\(zAF G (k:Int)).1<=(top G:Int)):=by
 by_cases e:k=G.rules.length
 ·exact .inl ⟨e,by rw[e,(zA1 G).2]⟩
 ·have hk:k<G.rules.length:=by omega
  have h1:=zBe (zAl hv).2.2.2.1 hk;rw[zA4 hk]at h1;have:=zAa.1 h1;refine .inr ⟨hk,?_,?_⟩
  ·rw[(zBM hk).2];omega
  ·rw[(zBM hk).2];unfold top;omega
theorem zJr{G}(hv:checkN G=0){k}(h:k∈byL G 0):k=G.rules.length:=by
 obtain⟨h1,h2⟩:=zBx.1 h;rcases zBB hv h1 with⟨e,_⟩|⟨_,e,_⟩
 ·exact e
 ·omega
def hd(G:Gram)(s:Int):Itm:=((((byL G s).headD 0:Nat):Int),0)
def rep(G:Gram)(x:Itm):Itm:=if x.2=0 then hd G (zAF G x.1).1 else x
theorem zCb{G}{x}(h:x.2≠0):rep G x=x:=if_neg h
theorem zCc{G}{x}(h:x.2=0):rep G x=hd G (zAF G x.1).1:=if_pos h
theorem zCT{G}{k:Nat}(hk:k<=G.rules.length):(byL G (zAF G (k:Int)).1).headD 0∈byL G (zAF G (k:Int)).1:=by
 have:k∈byL G (zAF G (k:Int)).1:=zBx.2 ⟨hk,rfl⟩;cases h:byL G (zAF G (k:Int)).1 with
 |nil=>rw[h]at this;cases this
 |cons a l=>exact List.mem_cons_self ..
theorem head_ne{G}{s}(h:byL G s≠[]):(byL G s).headD 0∈byL G s:=by
 cases e:byL G s with
 |nil=>exact absurd e h
 |cons a l=>exact List.mem_cons_self ..
theorem zEx{G}{s}{r}(h:r∈byL G s):rep G ((r:Int),0)=hd G s:=by
 rw[zCc rfl,(zBx.1 h).2]
theorem zRi{G}{s}(h:byL G s≠[]):rep G (hd G s)=hd G s:=zEx (head_ne h)
theorem zTh{G}{x}(h:zAY G x.1=true):rep G (rep G x)=rep G x:=by
 by_cases e:x.2=0
 ·unfold zAY at h;obtain⟨h1,h2⟩:=of_decide_eq_true h;obtain⟨k,hk⟩:=Int.eq_ofNat_of_zero_le h1;rw[zCc e];refine zRi fun q=>?_
  have:=zCT (G:=G) (k:=k) (by omega);rw[←hk,q]at this;cases this
 ·rw[zCb e,zCb e]
theorem zJ6{G}{s}(h:byL G s≠[]):zAI G (hd G s)=true:=zBS (zBx.1 (head_ne h)).1
theorem zOM{G}{x}(h:zAI G x=true):zAI G (rep G x)=true:=by
 by_cases e:x.2=0
 ·obtain⟨⟨h1,h2⟩,_⟩:=zAS.1 h;obtain⟨k,hk⟩:=Int.eq_ofNat_of_zero_le h1;rw[zCc e];refine zJ6 fun q=>?_
  have:=zCT (G:=G) (k:=k) (by omega);rw[←hk,q]at this;cases this
 ·rw[zCb e];exact h
theorem zKE{G}{q}(hv:checkN G=0){i}{x}{t}(hx:zAY G x.1=true):La G q i (rep G x) t↔La G q i x t:=by
 by_cases e:x.2=0
 ·obtain⟨r,d⟩:=x;dsimp only at e hx;subst e;unfold zAY at hx;obtain⟨h1,h2⟩:=of_decide_eq_true hx;obtain⟨k,rfl⟩:=Int.eq_ofNat_of_zero_le h1;have hk:k<=G.rules.length:=by omega
  have hm:=zCT (G:=G) hk;have e1:rep G ((k:Int),0)=((((byL G (zAF G (k:Int)).1).headD 0:Nat):Int),0):=rfl;rw[e1];generalize (byL G (zAF G (k:Int)).1).headD 0=k0 at hm;obtain⟨m1,m2⟩:=zBx.1 hm
  have key:∀a b:Nat,a<=G.rules.length->b<=G.rules.length->(zAF G (a:Int)).1=(zAF G (b:Int)).1->La G q i ((a:Int),0) t->La G q i ((b:Int),0) t:=by
   intro a b ha hb hab hl;generalize hy:(((a:Int),(0:Int)):Itm)=y at hl;cases hl with
   |start=>
    injection hy with hy _
    have ea:a=G.rules.length:=by omega
    subst ea;rw[(zA1 G).2]at hab;rcases zBB hv hb with⟨e,_⟩|⟨_,e,_⟩
    ·subst e;exact .start
    ·omega
   |move h0 hb0 _=>
    injection hy with _ hy
    have:=(zAS.1 (zAu.1 hb0).1).2.1;omega
   |opens h0 hb0 hr hl=>
    injection hy with hy _
    rename_i r y t0 _;obtain rfl:a=r:=by omega
    obtain⟨a1,a2⟩:=zBy.1 hr;rw[zA4 a1]at a2;rw[(zBM a1).2]at hab;refine .opens h0 hb0 (zBy.2 ?_) hl;rcases zBB hv hb with⟨e,e2⟩|⟨e,e2,_⟩
    ·rcases zBB hv ha with⟨e3,_⟩|⟨e3,e4,_⟩
     ·omega
     ·rw[(zBM a1).2]at e4;omega
    ·refine⟨e,?_⟩;rw[zA4 e];rw[(zBM e).2]at hab;rw[←hab];exact a2
  exact⟨key _ _ m1 hk m2,key _ _ hk m1 m2.symm⟩
 ·rw[zCb e]
def cloL(G:Gram)(K:List Itm)(ss:List Int):List Itm:=K++ss.flatMap fun s=>(byL G s).map fun k:Nat=>(((k:Int),0):Itm)
theorem zQM{G}{K}{ss}{x}:x∈cloL G K ss↔x∈K\/∃s∈ss,∃k∈byL G s,x=((k:Int),0):=by
 unfold cloL;rw[List.mem_append,List.mem_flatMap];constructor
 ·rintro(h|⟨s,h1,h2⟩)
  ·exact .inl h
  ·obtain⟨k,h3,h4⟩:=List.mem_map.1 h2;exact .inr ⟨s,h1,k,h3,h4.symm⟩
 ·rintro(h|⟨s,h1,k,h2,rfl⟩)
  ·exact .inl h
  ·exact .inr ⟨s,h1,List.mem_map.2 ⟨k,h2,rfl⟩⟩
def zB7(q:Whole)(i:Nat):List Int:=(q.2.getD i []).map Prod.fst
theorem zEv{G}{q}(D:Done G q){i}(hi:i<q.1.length){s}:s∈zB7 q i↔∃m:Nat,m<top G/\s=((m+1:Nat):Int)/\stL G (clL G (zAK q.1 i)) s≠[]:=by
 unfold zB7;have hl:i<q.2.length:=by rw[D.all];exact hi
 rw[D.ok.trans i hl,List.mem_map];constructor
 ·rintro⟨⟨a,b⟩,h,rfl⟩;obtain⟨m,h1,rfl,h2,_⟩:=zA8.1 h;exact⟨m,h1,rfl,h2⟩
 ·rintro⟨m,h1,rfl,h2⟩;exact⟨_,zA8.2 ⟨m,h1,rfl,h2,rfl⟩,rfl⟩
theorem zE9{G}{q}(D:Done G q)(hv:checkN G=0){i}(hi:i<q.1.length)(x):x∈cloL G (zAK q.1 i) (zB7 q i)↔Clo G (zAK q.1 i) x:=by
 rw[zQM];constructor
 ·rintro(h|⟨s,h1,k,h2,rfl⟩)
  ·exact .of h ((D.ok.good _ (zBD hi)).2.2 _ h)
  ·obtain⟨m,hm,rfl,hn⟩:=(zEv D hi).1 h1;obtain⟨y,hy⟩:=List.exists_mem_of_ne_nil _ hn;obtain⟨z,z1,z2,z3,_⟩:=((zFK _ _ _).2 y).1 hy;refine .next (((zF5 _ _).2 z).1 z1) z2 ?_;rw[z3];exact(zHf (by omega)).1 h2
 ·intro h;cases h with
  |of h _=>exact .inl h
  |next hc hb hr=>
   rename_i y r;refine .inr ?_;obtain⟨yr,yd⟩:=y;obtain⟨b1,b2⟩:=zAu.1 hb;obtain⟨c1,c2⟩:=zAS.1 b1;dsimp only at c1 c2 b2;obtain⟨n,rfl⟩:=Int.eq_ofNat_of_zero_le c1.1;obtain⟨d,rfl⟩:=Int.eq_ofNat_of_zero_le c2.1
   have hrb:zAY G (n:Int)=true:=by
    unfold zAY;exact decide_eq_true c1
   have hd:d<(zAF G (n:Int)).2.length:=by
    unfold rlen at b2;omega
   obtain⟨s1,s2⟩:=zB6 hrb hd;obtain⟨k1,k2⟩:=zBX hv hrb hd;obtain⟨m,hm⟩:=Int.eq_ofNat_of_zero_le (show 0<=(zAF G (n:Int)).2[d]-1 by omega);have es:behV G ((n:Int),(d:Int))=((m+1:Nat):Int):=by rw[s2];omega
   rw[es]at hr;refine⟨((m+1:Nat):Int),(zEv D hi).2 ⟨m,by omega,rfl,fun e=>?_⟩,r,(zHf (by omega)).2 hr,rfl⟩;have:((n:Int),((d:Int)+1))∈stL G (clL G (zAK q.1 i)) ((m+1:Nat):Int):=((zFK _ _ _).2 _).2 ⟨((n:Int),(d:Int)),((zF5 _ _).2 _).2 hc,s1,es,rfl⟩;rw[e]at this;cases this
theorem zMk{G}{q}(D:Done G q)(hv:checkN G=0){i}(hi:i<q.1.length){x}(hx:Clo G (zAK q.1 i) x)(hb:behB G x=true):∃j:Nat,j<q.1.length/\leads (q.2.getD i []) (behV G x)=(j:Int)/\(x.1,x.2+1)∈zAK q.1 j:=by
 obtain⟨yr,yd⟩:=x;obtain⟨b1,b2⟩:=zAu.1 hb;obtain⟨c1,c2⟩:=zAS.1 b1;dsimp only at c1 c2 b2;obtain⟨n,rfl⟩:=Int.eq_ofNat_of_zero_le c1.1;obtain⟨d,rfl⟩:=Int.eq_ofNat_of_zero_le c2.1
 have hrb:zAY G (n:Int)=true:=by
  unfold zAY;exact decide_eq_true c1
 have hd:d<(zAF G (n:Int)).2.length:=by
  unfold rlen at b2;omega
 obtain⟨j,h1,h2,h3⟩:=D.one hv hi hrb hd (((zF5 _ _).2 _).2 hx);exact⟨j,h1,by rw[(zB6 hrb hd).2];exact h2,by simpa using h3⟩
theorem zHt{G}{q}(D:Done G q){j}(h0:0<j)(hj:j<q.1.length){y}(hy:y∈zAK q.1 j):∃(i:Nat) (x:Itm),i<q.1.length/\Clo G (zAK q.1 i) x/\behB G x=true/\leads (q.2.getD i []) (behV G x)=(j:Int)/\y=(x.1,x.2+1):=by
 obtain⟨i,s,h1,h2,h3,h4⟩:=D.ok.early j h0 hj;rw[h4]at hy;obtain⟨x,x1,x2,x3,x4⟩:=((zFK _ _ _).2 y).1 hy;refine⟨i,x,by omega,((zF5 _ _).2 x).1 x1,x2,?_,x4⟩;rw[x3,D.ok.trans i h2];have hn:stL G (clL G (zAK q.1 i)) ((s+1:Nat):Int)≠[]:=fun e=>by rw[←h4]at e;exact(D.ok.good _ (zBD hj)).1 e
 rw[zFN h3 hn]
 congr 1
 rw[←h4,zBg hj];exact D.ok.nodup.idxOf_getElem j hj
theorem zCJ{α:Type}[DecidableEq α]:∀{l M:List α},l.Nodup->(∀x∈l,x∈M)->l.length<=M.length
 |[],_,_,_=>Nat.zero_le _
 |x::l,M,h,k=>by
  have h':=List.nodup_cons.1 h;have hm:=k x (List.mem_cons_self ..);have:=zCJ (M:=M.erase x) h'.2 fun z hz=>(List.mem_erase_of_ne (fun e=>h'.1 (by rw[←e];exact hz))).2 (k z (List.mem_cons_of_mem _ hz))
  rw[List.length_erase_of_mem hm]at this;have:=List.length_pos_of_mem hm;rw[List.length_cons];omega
abbrev Pl:=Nat×Itm
structure Way where
 v:Value
 f:Nat->Bool
 e:Bool
 «to»:Nat
structure Nt where
 pls:List Pl
 D:Nat->Nat
 E:Nat->Nat
 Ys:Nat->List Way
 wv:Nat->Value
 S:Nat->Nat->Bool
 Wt:Nat->Bool
 qs:List Nat
def Way.Ov(y:Way):Prop:=y.e=true/\∀u,y.f u=false
def Way.In(G:Gram)(x:Itm)(y:Way):Prop:=(y.e=true↔∀z∈zJT G x,Fi.Can G z)/\∀u:Nat,y.f u=true↔zDG G (zJT G x) (u:Int)
def zHW(G:Gram)(q:Whole)(pls:List Pl)(i:Nat)(x:Itm)(y:Way):Prop:=
 (∃j:Nat,leads (q.2.getD i []) (behV G x)=(j:Int)/\pls[y.to]?=some (j,(x.1,x.2+1))/\y.Ov)\/(byL G (behV G x)≠[]/\pls[y.to]?=some (i,hd G (behV G x))/\y.In G x)
structure Lk1 (G:Gram) (q:Whole) (N:Nt):Prop where
 nd:N.pls.Nodup
 can:∀p∈N.pls,p.1<q.1.length/\rep G p.2=p.2/\zAI G p.2=true
 sound:∀(k i:Nat) (c:Itm),N.pls[k]?=some (i,c)->∀y∈N.Ys k,∃x,Clo G (zAK q.1 i) x/\rep G x=c/\behB G x=true/\zHW G q N.pls i x y
def Lkd(G:Gram)(q:Whole)(N:Nt)(i:Nat)(x:Itm):Prop:=
 behB G x=true->∃k:Nat,N.pls[k]?=some (i,rep G x)/\(∃j:Nat,leads (q.2.getD i []) (behV G x)=(j:Int)/\∃y∈N.Ys k,N.pls[y.to]?=some (j,(x.1,x.2+1))/\y.Ov)/\(byL G (behV G x)≠[]->∃y∈N.Ys k,N.pls[y.to]?=some (i,hd G (behV G x))/\y.In G x)
structure Gro (N M:Nt):Prop where
 pls:∀(k:Nat) (p:Pl),N.pls[k]?=some p->M.pls[k]?=some p
 ys:∀k,k<N.pls.length->∀y∈N.Ys k,y∈M.Ys k
theorem zAk{α:Type}{l:List α}{k}{p}(h:l[k]?=some p):k<l.length:=by
 rcases Nat.lt_or_ge k l.length with q|q
 ·exact q
 ·rw[List.getElem?_eq_none q]at h;cases h
theorem Gro.refl(N):Gro N N:=⟨fun _ _ h=>h,fun _ _ _ h=>h⟩
theorem Gro.len{N M}(h:Gro N M):N.pls.length<=M.pls.length:=by
 rcases Nat.lt_or_ge M.pls.length N.pls.length with q|q
 ·have:=h.pls M.pls.length _ (List.getElem?_eq_getElem q);rw[List.getElem?_eq_none (Nat.le_refl _)]at this;cases this
 ·exact q
theorem Gro.trans{N M L}(h:Gro N M)(k:Gro M L):Gro N L:=⟨fun a p e=>k.pls a p (h.pls a p e),fun a ha y hy=>k.ys a (Nat.lt_of_lt_of_le ha h.len) y (h.ys a ha y hy)⟩
theorem Lkd.gro{G}{q}{N M}{i}{x}(h:Lkd G q N i x)(g:Gro N M):Lkd G q M i x:=fun hb=>by
 obtain⟨k,h1,⟨j,h2,y,h3,h4,h5⟩,h6⟩:=h hb;have hk:=zAk h1;refine⟨k,g.pls _ _ h1,⟨j,h2,y,g.ys k hk y h3,g.pls _ _ h4,h5⟩,fun hn=>?_⟩;obtain⟨z,z1,z2,z3⟩:=h6 hn;exact⟨z,g.ys k hk z z1,g.pls _ _ z2,z3⟩
theorem zHW.gro{G}{q}{a b}{i}{x}{y}(h:zHW G q a i x y)(g:∀(k:Nat) (p:Pl),a[k]?=some p->b[k]?=some p):zHW G q b i x y:=by
 rcases h with⟨j,h1,h2,h3⟩|⟨h1,h2,h3⟩
 ·exact .inl ⟨j,h1,g _ _ h2,h3⟩
 ·exact .inr ⟨h1,g _ _ h2,h3⟩
def Nt.cell(N:Nt)(p:Pl)(d e:Nat):Nt:=
 {pls:=N.pls++[p],D:=upd N.D N.pls.length d,E:=upd N.E N.pls.length e,Ys:=upd N.Ys N.pls.length [],wv:=upd N.wv N.pls.length (.slice none 0 0),S:=upd N.S N.pls.length (fun _=>false),Wt:=upd N.Wt N.pls.length false,qs:=N.qs}
theorem Nt.cell_gro(N)(p)(d e):Gro N (N.cell p d e):=by
 refine⟨fun k r h=>?_,fun k hk y hy=>?_⟩
 ·show(N.pls++[p])[k]?=some r;rw[List.getElem?_append_left (zAk h)];exact h
 ·show y∈upd N.Ys N.pls.length [] k;rw[zAB (by omega)];exact hy
theorem Lk1.cell{G}{q}{N}(h:Lk1 G q N){i}{c}(hn:(i,c)∉N.pls)(hi:i<q.1.length)(hc:rep G c=c)(hr:zAI G c=true)(d e):Lk1 G q (N.cell (i,c) d e):=by
 refine⟨?_,fun p hp=>?_,fun k j x hk y hy=>?_⟩
 ·show(N.pls++[(i,c)]).Nodup;rw[List.nodup_append];refine⟨h.nd,by simp,fun a ha b hb=>?_⟩;rw[List.mem_singleton]at hb;subst hb;exact fun e=>hn (e▸ha)
 ·rcases List.mem_append.1 (show p∈N.pls++[(i,c)]from hp)with k|k
  ·exact h.can p k
  ·rw[List.mem_singleton]at k;subst k;exact⟨hi,hc,hr⟩
 ·have hy':y∈upd N.Ys N.pls.length [] k:=hy
  by_cases ek:k=N.pls.length
  ·subst ek;rw[upd_same]at hy';cases hy'
  ·rw[zAB ek]at hy';have hk':(N.pls++[(i,c)])[k]?=some (j,x):=hk;have hl:=zAk hk';rw[List.length_append]at hl;simp only[List.length_cons,List.length_nil]at hl;rw[List.getElem?_append_left (by omega)]at hk';obtain⟨z,z1,z2,z3,z4⟩:=h.sound k j x hk' y hy';exact⟨z,z1,z2,z3,z4.gro fun a p e'=>(N.cell_gro (i,c) d e).pls a p e'⟩
def Nt.lead(N:Nt)(k:Nat)(y:Way)(v:Value):Nt:={N with Ys:=upd N.Ys k (N.Ys k++[y]),wv:=upd N.wv k v}
theorem Nt.lead_gro(N)(k)(y)(v):Gro N (N.lead k y v):=by
 refine⟨fun _ _ h=>h,fun a ha z hz=>?_⟩;show z∈upd N.Ys k (N.Ys k++[y]) a
 by_cases e:a=k
 ·subst e;rw[upd_same];exact List.mem_append_left _ hz
 ·rw[zAB e];exact hz
theorem Nt.lead_mem(N:Nt)(k)(y)(v):y∈(N.lead k y v).Ys k:=by
 show y∈upd N.Ys k (N.Ys k++[y]) k;rw[upd_same];exact List.mem_append_right _ (List.mem_singleton.2 rfl)
theorem Lk1.lead{G}{q}{N}(h:Lk1 G q N){k i:Nat}{x}(hk:N.pls[k]?=some (i,rep G x))(hx:Clo G (zAK q.1 i) x)(hb:behB G x=true){y}(hy:zHW G q N.pls i x y)(v):Lk1 G q (N.lead k y v):=by
 refine⟨h.nd,h.can,fun a j c ha z hz=>?_⟩;have hz':z∈upd N.Ys k (N.Ys k++[y]) a:=hz
 by_cases e:a=k
 ·subst e;rw[upd_same]at hz';rcases List.mem_append.1 hz' with r|r
  ·exact h.sound a j c ha z r
  ·rw[List.mem_singleton]at r;subst r;have ha':N.pls[a]?=some (j,c):=ha;rw[hk]at ha';injection ha' with ha'
   injection ha' with e1 e2
   subst e1 e2;exact⟨x,hx,rfl,hb,hy⟩
 ·rw[zAB e]at hz';exact h.sound a j c ha z hz'
theorem Lk1.len{G}{q}{N}(h:Lk1 G q N){A:List Itm}(hA:∀x,zAI G x=true->x∈A):N.pls.length<=q.1.length*A.length:=by
 have h1:N.pls.length<=((List.range q.1.length).flatMap fun i=>A.map fun x=>((i,x):Pl)).length:=by
  refine zCJ h.nd fun p hp=>?_
  obtain⟨k1,_,k3⟩:=h.can p hp;exact List.mem_flatMap.2 ⟨p.1,List.mem_range.2 k1,List.mem_map.2 ⟨p.2,hA _ k3,rfl⟩⟩
 have h2:∀l:List Nat,(l.flatMap fun i=>A.map fun x=>((i,x):Pl)).length=l.length*A.length:=fun l=>by
  induction l with
  |nil=>simp
  |cons a l ih=>rw[List.flatMap_cons,List.length_append,ih,List.length_map,List.length_cons,Nat.succ_mul];omega
 rw[h2,List.length_range]at h1;exact h1
end Lk
namespace Lk
open Gr (Gram checkN zAl zAF zAY nonB zBy zBe zA1 zAa)
open Im
open Au
open Bt (Upto orr gains)
theorem zCp{B C}{n}:gains B n C=true↔∃i,i<n/\C i=true/\B i=false:=by
 unfold gains;rw[List.any_eq_true];constructor
 ·rintro⟨i,h1,h2⟩;rw[Bool.and_eq_true,Bool.not_eq_true']at h2;exact⟨i,List.mem_range.1 h1,h2.1,h2.2⟩
 ·rintro⟨i,h1,h2,h3⟩;exact⟨i,List.mem_range.2 h1,by rw[h2,h3];rfl⟩
theorem zRv(B C)(n){i}(h:B i=true):orr B n C i=true:=by
 unfold orr;rw[h]
 rfl
theorem zN1(B C)(n){i}(h:C i=true)(hi:i<n):orr B n C i=true:=by
 unfold orr;rw[h];simp[hi]
theorem zFX{B C}{n i}(h:orr B n C i=true):B i=true\/(C i=true/\i<n):=by
 unfold orr at h;rw[Bool.or_eq_true,Bool.and_eq_true,decide_eq_true_iff]at h;exact h
theorem zKP{B C}{n}(h:gains B n C=false):orr B n C=B:=by
 funext i
 cases hb:B i with
 |true=>exact zRv B C n hb
 |false=>
  cases ho:orr B n C i with
  |false=>rfl
  |true=>
   rcases zFX ho with q|⟨q1,q2⟩
   ·rw[hb]at q;cases q
   ·rw[zCp.2 ⟨i,q2,q1,hb⟩]at h;cases h
theorem zQn{B C}{n}(h:Upto B n):Upto (orr B n C) n:=⟨h.1,fun i hi=>by
 cases ho:orr B n C i with
 |false=>rfl
 |true=>
  rcases zFX ho with q|⟨_,q2⟩
  ·rw[h.2 i hi]at q;cases q
  ·omega⟩
def Nt.give(m:Nat)(N:Nt)(k:Nat)(F:Nat->Bool):Nt:=
 {N with S:=upd N.S k (orr (N.S k) m F),Wt:=if gains (N.S k) m F&& !N.Wt k then upd N.Wt k true else N.Wt,qs:=if gains (N.S k) m F&& !N.Wt k then N.qs++[k]else N.qs}
def Stl(S:Nat->Nat->Bool)(k:Nat)(y:Way):Prop:=(∀t,y.f t=true->S y.to t=true)/\(y.e=true->∀t,S k t=true->S y.to t=true)
theorem zBu(m)(N:Nt)(k)(F){a t}(h:N.S a t=true):(N.give m k F).S a t=true:=by
 show upd N.S k (orr (N.S k) m F) a t=true
 by_cases e:a=k
 ·subst e;rw[upd_same];exact zRv _ _ _ h
 ·rw[zAB e];exact h
theorem zFF(m)(N:Nt)(k)(F)(hF:Upto F m){t}(h:F t=true):(N.give m k F).S k t=true:=by
 show upd N.S k (orr (N.S k) m F) k t=true;rw[upd_same];refine zN1 _ _ _ h ?_;rcases Nat.lt_or_ge t m with q|q
 ·exact q
 ·rw[hF.2 t q]at h;cases h
theorem zGL{m}{N:Nt}{k}{F}{a t}(h:(N.give m k F).S a t=true):N.S a t=true\/(a=k/\F t=true):=by
 have h':upd N.S k (orr (N.S k) m F) a t=true:=h
 by_cases e:a=k
 ·subst e;rw[upd_same]at h';exact(zFX h').imp id fun q=>⟨rfl,q.1⟩
 ·rw[zAB e]at h';exact .inl h'
theorem zH0{m}{N:Nt}{k}{F}(h:gains (N.S k) m F=false):N.give m k F=N:=by
 unfold Nt.give;rw[h,zKP h]
 have:upd N.S k (N.S k)=N.S:=by
  funext a
  by_cases e:a=k
  ·subst e;rw[upd_same]
  ·rw[zAB e]
 rw[this]
 rfl
theorem zSn{m}{N:Nt}{k}{F}{a}(h:N.Wt a=true):(N.give m k F).Wt a=true:=by
 show(if gains (N.S k) m F&& !N.Wt k then upd N.Wt k true else N.Wt) a=true;split
 ·by_cases e:a=k
  ·subst e;rw[upd_same]
  ·rw[zAB e];exact h
 ·exact h
theorem zLJ{m}{N:Nt}{k}{F}(h:gains (N.S k) m F=true):(N.give m k F).Wt k=true:=by
 show(if gains (N.S k) m F&& !N.Wt k then upd N.Wt k true else N.Wt) k=true;rw[h,Bool.true_and];cases hw:N.Wt k with
 |true=>simpa using hw
 |false=>
  rw[if_pos (by rfl),upd_same]
theorem zGM{m}{N:Nt}{k}{F}{a}(h:a≠k):(N.give m k F).S a=N.S a:=zAB h
structure Sp3 (G:Gram) (q:Whole) (m:Nat) (N:Nt) (X:Nat->List Way):Prop where
 upto:∀k,k<N.pls.length->Upto (N.S k) m
 snd:∀(k i:Nat) (c:Itm),N.pls[k]?=some (i,c)->∀t:Nat,N.S k t=true->La G q i c (t:Int)
 nd:N.qs.Nodup
 qu:∀k,k∈N.qs↔k<N.pls.length/\N.Wt k=true
 full:∀k,k<N.pls.length->N.Wt k=true->∃t,N.S k t=true
 set:∀k,k<N.pls.length->N.Wt k=true\/(∀t,N.S k t=false)\/∀y∈X k,Stl N.S k y
theorem Sp3.give{G}{q}{m}{N}{X}(h:Sp3 G q m N X){k:Nat}{i}{c}(hk:N.pls[k]?=some (i,c)){F}(hF:∀t:Nat,F t=true->La G q i c (t:Int)):Sp3 G q m (N.give m k F) X:=by
 have hl:=zAk hk;cases hg:gains (N.S k) m F with
 |false=>rw[zH0 hg];exact h
 |true=>
  refine⟨fun a ha=>?_,fun a j d ha t ht=>?_,?_,fun a=>?_,fun a ha hw=>?_,fun a ha=>?_⟩
  ·show Upto (upd N.S k (orr (N.S k) m F) a) m
   by_cases e:a=k
   ·subst e;rw[upd_same];exact zQn (h.upto a hl)
   ·rw[zAB e];exact h.upto a ha
  ·rcases zGL ht with r|⟨rfl,r⟩
   ·exact h.snd a j d ha t r
   ·have ha':N.pls[a]?=some (j,d):=ha;rw[hk]at ha';injection ha' with ha'
    injection ha' with e1 e2
    subst e1 e2;exact hF t r
  ·show(if gains (N.S k) m F&& !N.Wt k then N.qs++[k]else N.qs).Nodup;split
   ·rename_i hc;rw[Bool.and_eq_true,Bool.not_eq_true']at hc;rw[List.nodup_append];refine⟨h.nd,by simp,fun a ha b hb=>?_⟩;rw[List.mem_singleton]at hb;subst hb;intro e;subst e;have:=((h.qu a).1 ha).2;rw[hc.2]at this;cases this
   ·exact h.nd
  ·show a∈(if gains (N.S k) m F&& !N.Wt k then N.qs++[k]else N.qs)↔a<N.pls.length/\(if gains (N.S k) m F&& !N.Wt k then upd N.Wt k true else N.Wt) a=true;split
   ·rename_i hc;rw[List.mem_append,List.mem_singleton,h.qu]
    by_cases e:a=k
    ·subst e;rw[upd_same];exact⟨fun _=>⟨hl,rfl⟩,fun _=> .inr rfl⟩
    ·rw[zAB e];constructor
     ·rintro(r|r)
      ·exact r
      ·exact absurd r e
     ·exact .inl
   ·exact h.qu a
  ·by_cases e:a=k
   ·subst e;obtain⟨t,_,h2,_⟩:=zCp.1 hg;obtain⟨t,h1,h2,h3⟩:=zCp.1 hg;refine⟨t,?_⟩;show upd N.S a (orr (N.S a) m F) a t=true;rw[upd_same];exact zN1 _ _ _ h2 h1
   ·have hw':N.Wt a=true:=by
     have hw1:(if gains (N.S k) m F&& !N.Wt k then upd N.Wt k true else N.Wt) a=true:=hw;split at hw1
     ·rw[zAB e]at hw1;exact hw1
     ·exact hw1
    obtain⟨t,ht⟩:=h.full a ha hw';exact⟨t,zBu _ _ _ _ ht⟩
  ·by_cases e:a=k
   ·subst e;exact .inl (zLJ hg)
   ·rcases h.set a ha with r|r|r
    ·exact .inl (zSn r)
    ·exact .inr (.inl fun t=>by rw[zGM e];exact r t)
    ·refine .inr (.inr fun y hy=>⟨fun t ht=>zBu _ _ _ _ ((r y hy).1 t ht),fun he t ht=>?_⟩);rw[zGM e]at ht;exact zBu _ _ _ _ ((r y hy).2 he t ht)
def Nt.pop(N:Nt)(k:Nat):Nt:={N with Wt:=upd N.Wt k false,qs:=N.qs.dropLast}
theorem Sp3.pop{G}{q}{m}{N}{X}(h:Sp3 G q m N X){l}{k}(e:N.qs=l++[k]):k<N.pls.length/\(∃t,N.S k t=true)/\Sp3 G q m (N.pop k) (upd X k []):=by
 have hk:=(h.qu k).1 (by rw[e];exact List.mem_append_right _ (List.mem_singleton.2 rfl));have hnd:=h.nd;rw[e,List.nodup_append]at hnd;have hd:N.qs.dropLast=l:=by rw[e];simp
 refine⟨hk.1,h.full k hk.1 hk.2,h.upto,h.snd,?_,fun a=>?_,fun a ha hw=>?_,fun a ha=>?_⟩
 ·show N.qs.dropLast.Nodup;rw[hd];exact hnd.1
 ·show a∈N.qs.dropLast↔a<N.pls.length/\upd N.Wt k false a=true;rw[hd]
  by_cases ea:a=k
  ·subst ea;rw[upd_same];exact⟨fun q=>absurd rfl (hnd.2.2 a q a (List.mem_singleton.2 rfl)),fun q=>by cases q.2⟩
  ·rw[zAB ea,←h.qu,e,List.mem_append,List.mem_singleton];exact⟨.inl,fun q=>q.resolve_right ea⟩
 ·have hw':upd N.Wt k false a=true:=hw
  by_cases ea:a=k
  ·subst ea;rw[upd_same]at hw';cases hw'
  ·rw[zAB ea]at hw';exact h.full a ha hw'
 ·show upd N.Wt k false a=true\/(∀t,N.S a t=false)\/∀y∈upd X k [] a,Stl N.S a y
  by_cases ea:a=k
  ·subst ea;rw[upd_same,upd_same];exact .inr (.inr fun y hy=>by cases hy)
  ·rw[zAB ea,zAB ea];exact h.set a ha
def Nt.go(m:Nat)(N:Nt)(k:Nat)(y:Way):Nt:=if y.e=true then(N.give m y.to y.f).give m y.to ((N.give m y.to y.f).S k)else N.give m y.to y.f
theorem zVf(m)(N:Nt)(k)(y){a t}(h:N.S a t=true):(N.go m k y).S a t=true:=by
 unfold Nt.go;split
 ·exact zBu _ _ _ _ (zBu _ _ _ _ h)
 ·exact zBu _ _ _ _ h
theorem zUh{m}{N:Nt}{k}{y}(hf:Upto y.f m)(hS:Upto ((N.give m y.to y.f).S k) m):Stl (N.go m k y).S k y:=by
 unfold Nt.go;split
 ·refine⟨fun t ht=>zBu _ _ _ _ (zFF _ _ _ _ hf ht),fun _ t ht=>?_⟩;rcases zGL ht with r|⟨rfl,r⟩
  ·exact zFF _ _ _ _ hS r
  ·exact zFF _ _ _ _ hS r
 ·rename_i he;exact⟨fun t ht=>zFF _ _ _ _ hf ht,fun e=>absurd e he⟩
theorem Sp3.go{G}{q}{m}{N}{X}(h:Sp3 G q m N X){k}(hk:k<N.pls.length)(h0:∃t,N.S k t=true){y:Way}(hto:y.to<N.pls.length)(hf:Upto y.f m)
  (hF:∀(i:Nat) (c:Itm),N.pls[y.to]?=some (i,c)->∀t:Nat,y.f t=true->La G q i c (t:Int)) (hE:y.e=true->∀(i:Nat) (c:Itm) (j:Nat) (d:Itm),N.pls[y.to]?=some (i,c)->N.pls[k]?=some (j,d)->∀t:Nat,La G q j d (t:Int)->La G q i c (t:Int)):
  Sp3 G q m (N.go m k y) (upd X k (X k++[y])):=by
 obtain⟨⟨i,c⟩,hp⟩:∃p,N.pls[y.to]?=some p:=⟨_,List.getElem?_eq_getElem hto⟩;obtain⟨⟨j,d⟩,hq⟩:∃p,N.pls[k]?=some p:=⟨_,List.getElem?_eq_getElem hk⟩;have h1:=h.give hp (hF i c hp);have hS:Upto ((N.give m y.to y.f).S k) m:=h1.upto k hk;have st:=zUh (N:=N) (k:=k) hf hS
 have h2:Sp3 G q m (N.go m k y) X:=by
  unfold Nt.go;split
  ·rename_i he;exact h1.give (k:=y.to) (i:=i) (c:=c) hp fun t ht=>hE he i c j d hp hq t (h1.snd k j d hq t ht)
  ·exact h1
 refine⟨h2.upto,h2.snd,h2.nd,h2.qu,h2.full,fun a ha=>?_⟩
 by_cases e:a=k
 ·subst e;rw[upd_same];refine(h2.set a ha).imp id fun r=>r.imp id fun r z hz=>?_
  rcases List.mem_append.1 hz with r2|r2
  ·exact r z r2
  ·rw[List.mem_singleton]at r2;subst r2;exact st
 ·rw[zAB e];exact h2.set a ha
theorem zUg(m)(N:Nt)(k)(y):(N.go m k y).pls=N.pls/\(N.go m k y).Ys=N.Ys/\(N.go m k y).D=N.D/\(N.go m k y).E=N.E/\(N.go m k y).wv=N.wv:=by
 unfold Nt.go;split<;>exact⟨rfl,rfl,rfl,rfl,rfl⟩
def Nt.lack(m:Nat)(N:Nt):Nat:=((List.range N.pls.length).flatMap fun k=>(List.range m).map fun t=>(k,t)).countP fun e=> !N.S e.1 e.2
theorem zHq{α:Type}{p r}:∀{l:List α},(∀x∈l,p x=true->r x=true)->l.countP p<=l.countP r/\((∃x∈l,p x=false/\r x=true)->l.countP p<l.countP r)
 |[],_=>⟨Nat.le_refl _,fun⟨x,h,_⟩=>by cases h⟩
 |y::l,h=>by
  obtain⟨i1,i2⟩:=zHq (l:=l) (p:=p) (r:=r) fun x hx=>h x (List.mem_cons_of_mem _ hx)
  have hy:=h y (List.mem_cons_self ..);rw[List.countP_cons,List.countP_cons];refine⟨?_,?_⟩
  ·cases e1:p y<;>cases e2:r y<;>simp_all<;>omega
  ·rintro⟨x,h1,h2,h3⟩;rcases List.mem_cons.1 h1 with e|e
   ·subst e;rw[h2,h3];simp;omega
   ·have:=i2 ⟨x,e,h2,h3⟩;cases e1:p y<;>cases e2:r y<;>simp_all<;>omega
theorem zNT{m}{N:Nt}{k}(hk:k<N.pls.length)(F):(N.give m k F).lack m<=N.lack m/\(gains (N.S k) m F=true->(N.give m k F).lack m<N.lack m):=by
 have hc:=zHq (l:=(List.range N.pls.length).flatMap fun k=>(List.range m).map fun t=>(k,t)) (p:=fun e:Nat×Nat=> !(N.give m k F).S e.1 e.2) (r:=fun e=> !N.S e.1 e.2) (fun e _ h=>by
  rw[Bool.not_eq_true']at h⊢;cases e2:N.S e.1 e.2 with
  |false=>rfl
  |true=>rw[zBu m N k F e2]at h;cases h)
 refine⟨hc.1,fun hg=>hc.2 ?_⟩;obtain⟨t,h1,h2,h3⟩:=zCp.1 hg;refine⟨(k,t),List.mem_flatMap.2 ⟨k,List.mem_range.2 hk,List.mem_map.2 ⟨t,List.mem_range.2 h1,rfl⟩⟩,?_,?_⟩
 ·dsimp only
  have:(N.give m k F).S k t=true:=by
   show upd N.S k (orr (N.S k) m F) k t=true;rw[upd_same];exact zN1 _ _ _ h2 h1
  rw[this]
  rfl
 ·dsimp only;rw[h3]
  rfl
def Nt.num(m:Nat)(N:Nt):Nat:=N.lack m*(N.pls.length+1)+N.qs.length
theorem zKN{m}{N:Nt}{k}(hk:k<N.pls.length)(hq:N.qs.length<=N.pls.length)(F):(N.give m k F).num m<=N.num m:=by
 cases hg:gains (N.S k) m F with
 |false=>rw[zH0 hg];exact Nat.le_refl _
 |true=>
  have h1:=(zNT (m:=m) hk F).2 hg
  have h2:(N.give m k F).qs.length<=N.qs.length+1:=by
   show(if gains (N.S k) m F&& !N.Wt k then N.qs++[k]else N.qs).length<= _;split<;>simp
  have h3:(N.give m k F).pls=N.pls:=rfl;unfold Nt.num;rw[h3];generalize (N.give m k F).lack m=a at*;generalize N.lack m=b at*;have:(a+1)*(N.pls.length+1)<=b*(N.pls.length+1):=Nat.mul_le_mul_right _ h1;rw[Nat.succ_mul]at this;omega
theorem Sp3.qlen{G}{q}{m}{N}{X}(h:Sp3 G q m N X):N.qs.length<=N.pls.length:=by
 have:=zCJ h.nd (M:=List.range N.pls.length) fun k hk=>List.mem_range.2 ((h.qu k).1 hk).1
 simpa using this
theorem zTK{m}{N:Nt}{l}{k}(e:N.qs=l++[k]):(N.pop k).num m<N.num m:=by
 have:(N.pop k).qs=l:=by
  show N.qs.dropLast=l;rw[e];simp
 unfold Nt.num;rw[this,e,List.length_append];show N.lack m*(N.pls.length+1)+l.length<N.lack m*(N.pls.length+1)+(l.length+1);omega
theorem zUu{G}{q}{m}{N}{X}(h:Sp3 G q m N X){k}{y}(hto:y.to<N.pls.length)(hq:(N.give m y.to y.f).qs.length<=N.pls.length):(N.go m k y).num m<=N.num m:=by
 have h1:=zKN (m:=m) hto h.qlen y.f;unfold Nt.go;split
 ·exact Nat.le_trans (zKN (m:=m) (N:=N.give m y.to y.f) hto hq _) h1
 ·exact h1
open Classical in
theorem zPl{G}{q}(D:Done G q)(hv:checkN G=0){N}{m}(h1:Lk1 G q N)(h3:Sp3 G q m N N.Ys)(hq:N.qs=[])(hL:∀i,i<q.1.length->∀x,Clo G (zAK q.1 i) x->Lkd G q N i x)
  {k0:Nat} (hk0:N.pls[k0]?=some (0,((G.rules.length:Int),0))) (h0:N.S k0 0=true) {k i:Nat} {c} (hk:N.pls[k]?=some (i,c)) (t):N.S k t=true↔La G q i c (t:Int):=by
 have idle:∀a,a<N.pls.length->N.Wt a=false:=fun a ha=>by
  cases hw:N.Wt a with
  |false=>rfl
  |true=>
   have:=(h3.qu a).2 ⟨ha,hw⟩;rw[hq]at this;cases this
 have settled:∀a,a<N.pls.length->(∃t,N.S a t=true)->∀y∈N.Ys a,Stl N.S a y:=fun a ha ⟨t,ht⟩=>by
  rcases h3.set a ha with r|r|r
  ·rw[idle a ha]at r;cases r
  ·rw[r t]at ht;cases ht
  ·exact r
 have one:∀{a b:Nat} {p:Pl},N.pls[a]?=some p->N.pls[b]?=some p->a=b:=fun {a b p} ha hb=>by
  have la:=zAk ha;have lb:=zAk hb;rw[List.getElem?_eq_getElem la,Option.some.injEq]at ha;rw[List.getElem?_eq_getElem lb,Option.some.injEq]at hb;rcases Nat.lt_trichotomy a b with r|r|r
  ·exact absurd (ha.trans hb.symm) (List.pairwise_iff_getElem.1 h1.nd a b la lb r)
  ·exact r
  ·exact absurd (hb.trans ha.symm) (List.pairwise_iff_getElem.1 h1.nd b a lb la r)
 refine⟨h3.snd k i c hk t,fun hl=>?_⟩
 have key:∀{i:Nat} {x:Itm} {t:Int},La G q i x t->∃(k:Nat) (n:Nat),N.pls[k]?=some (i,rep G x)/\t=(n:Int)/\N.S k n=true:=by
  intro i x t hl
  induction hl with
  |start=>
   refine⟨k0,0,?_,rfl,h0⟩;rw[hk0]
   have:rep G ((G.rules.length:Int),0)=((G.rules.length:Int),0):=by
    have hm:=zCT (G:=G) (k:=G.rules.length) (Nat.le_refl _);rw[zCc rfl];unfold hd;dsimp only;rw[(zA1 G).2]at hm⊢;rw[zJr hv hm]
   rw[this]
  |move h0 hb hl ih=>
   rename_i i j x t;obtain⟨k,n,e1,e2,e3⟩:=ih;obtain⟨p1,p2⟩:=zDo D hv h0;obtain⟨k',f1,⟨j',f2,y,f3,f4,f5⟩,_⟩:=hL i p1 x p2 hb;obtain rfl:=one f1 e1;have:j'=j:=by rw[hl]at f2;omega
   subst this;have st:=settled _ (zAk f1) ⟨n,e3⟩ y f3;have hx:=(zAS.1 (zAu.1 hb).1).2.1;exact⟨y.to,n,by rw[zCb (show(x.1,x.2+1).2≠0 from by dsimp only;omega)];exact f4,e2,st.2 f5.1 n e3⟩
  |opens h0 hb hr hl ih=>
   rename_i i r x t u;obtain⟨k,n,e1,e2,e3⟩:=ih;obtain⟨p1,p2⟩:=zDo D hv h0;have hleft:=zBy.1 hr
   have hnb:nonB G (behV G x)=true:=by
    rw[←hleft.2];exact zBe (zAl hv).2.2.2.1 hleft.1
   have hne:behV G x≠0:=by
    have:=zAa.1 hnb;omega
   have hrb:r∈byL G (behV G x):=(zHf hne).2 hr;obtain⟨k',f1,_,f2⟩:=hL i p1 x p2 hb;obtain⟨y,f3,f4,f5⟩:=f2 fun e=>by rw[e]at hrb;cases hrb
   obtain rfl:=one f1 e1;have st:=settled _ (zAk f1) ⟨n,e3⟩ y f3;have hu:=Fi.zCI hl;obtain⟨u',rfl⟩:=Int.eq_ofNat_of_zero_le hu.1;refine⟨y.to,u',by rw[zEx hrb];exact f4,rfl,?_⟩;rcases(zCH hv (zG2 h0)).1 hl with r1|⟨r1,r2⟩
   ·exact st.1 u' ((f5.2 u').2 r1)
   ·have:u'=n:=by omega
    subst this;exact st.2 (f5.1.2 r1) u' e3
 obtain⟨k',n,e1,e2,e3⟩:=key hl;have hc:=(h1.can (i,c) (List.mem_iff_getElem?.2 ⟨k,hk⟩)).2.1;rw[show rep G c=c from hc]at e1;obtain rfl:=one e1 hk;have:n=t:=by omega
 rw[←this];exact e3
theorem zVE{G}{q}(hv:checkN G=0){N}(h1:Lk1 G q N){k j:Nat}{d}(hk:N.pls[k]?=some (j,d)){y}(hy:y∈N.Ys k){t0:Nat}(ht:La G q j d (t0:Int)){i}{c}(hc:N.pls[y.to]?=some (i,c)):
  (∀t:Nat,y.f t=true->La G q i c (t:Int))/\(y.e=true->∀t:Nat,La G q j d (t:Int)->La G q i c (t:Int)):=by
 obtain⟨x,x1,x2,x3,x4⟩:=h1.sound k j d hk y hy
 have hrx:zAY G x.1=true:=by
  have:=(zAS.1 (zAn x1)).1;unfold zAY;exact decide_eq_true this
 subst x2;have hx:=(zKE (q:=q) hv hrx).1 ht;rcases x4 with⟨j',f1,f2,f3⟩|⟨f1,f2,f3⟩
 ·rw[hc]at f2;injection f2 with f2
  injection f2 with e1 e2
  subst e1 e2;refine⟨fun t h=>(by rw[f3.2 t]at h;cases h),fun _ t h=>?_⟩;exact .move ((zKE hv hrx).1 h) x3 f1
 ·rw[hc]at f2;injection f2 with f2
  injection f2 with e1 e2
  subst e1 e2;have hm:=head_ne f1
  have hne:behV G x≠0:=by
   obtain⟨xr,xd⟩:=x;obtain⟨b1,b2⟩:=zAu.1 x3;obtain⟨c1,c2⟩:=zAS.1 b1;dsimp only at c1 c2 b2;obtain⟨n,rfl⟩:=Int.eq_ofNat_of_zero_le c1.1;obtain⟨d,rfl⟩:=Int.eq_ofNat_of_zero_le c2.1
   have hd:d<(zAF G (n:Int)).2.length:=by
    unfold rlen at b2;omega
   rw[(zB6 hrx hd).2];have:=zBX hv hrx hd;omega
  have hof:=(zHf hne).1 hm;refine⟨fun t h=>?_,fun e t h=>?_⟩
  ·exact .opens hx x3 hof ((zCH hv (zG2 hx)).2 (.inl ((f3.2 t).1 h)))
  ·have hx':=(zKE (q:=q) hv hrx).1 h;exact .opens hx' x3 hof ((zCH hv (zG2 hx')).2 (.inr ⟨f3.1.1 e,rfl⟩))
end Lk
namespace Lk
open Go.RowKit Go.Maps
open Im
def P64(p:Pl):Prop:=(Lit.int .i64 (p.1:Int)).wf=true/\W64 p.2
def pv(p:Pl):Value:=.agg #[.int .i64 (p.1:Int),.int .i64 p.2.1,.int .i64 p.2.2]
def pk(p:Pl):Lit:=.string (keyBytes [.int .i64 (p.1:Int),.int .i64 p.2.1,.int .i64 p.2.2])
theorem zUz{x y}(hx:P64 x)(hy:P64 y)(h:pk x=pk y):x=y:=by
 unfold pk at h;simp only[Lit.string.injEq]at h
 have:=keyBytes_inj (l:=[.int .i64 (x.1:Int),.int .i64 x.2.1,.int .i64 x.2.2]) (l':=[.int .i64 (y.1:Int),.int .i64 y.2.1,.int .i64 y.2.2]) (by simp[Alike,Lit.sameKind])
  (fun a ha=>by
   simp only[List.mem_cons,List.not_mem_nil,or_false]at ha;rcases ha with rfl|rfl|rfl
   ·exact hx.1
   ·exact hx.2.1
   ·exact hx.2.2)
  (fun a ha=>by
   simp only[List.mem_cons,List.not_mem_nil,or_false]at ha;rcases ha with rfl|rfl|rfl
   ·exact hy.1
   ·exact hy.2.1
   ·exact hy.2.2) h
 simp at this;obtain⟨h1,h2,h3⟩:=this;obtain⟨a,b,c⟩:=x;obtain⟨a',b',c'⟩:=y;dsimp only at h1 h2 h3;subst h2 h3;have:a=a':=by omega
 rw[this]
structure Kp (P:Program) (K:TypeId):Prop where
 law:Keyed P K
 key:∀x,P64 x->keyOf P K (pv x)=some (pk x)
theorem zVk{P}{K}(fa fb ga gb)(law:Keyed P K)(hu:P.underlying K=some (.struct #[fa,fb]))(ha:P.underlying fa.type=some (.int .i64))(hb:P.underlying fb.type=some (.struct #[ga,gb]))
  (hga:P.underlying ga.type=some (.int .i64)) (hgb:P.underlying gb.type=some (.int .i64)) (hkt:P.keyType K=true) (hcells:P.cellsOf K=3) (cb2:P.cellsOf fb.type=2)
  (ca:P.cellsOf fa.type=1) (cga:P.cellsOf ga.type=1) (cgb:P.cellsOf gb.type=1) (oa:fa.offset=0) (ob:fb.offset=1) (oga:ga.offset=0) (ogb:gb.offset=1)
  (na:(fa.name != "_")=true) (nb:(fb.name != "_")=true) (nga:(ga.name != "_")=true) (ngb:(gb.name != "_")=true) (n) (hn:P.types.size=n+2):Kp P K:=by
 refine⟨law,fun x hx=>?_⟩;unfold keyOf pv;rw[hu];simp only[hkt,Bool.true_and];rw[if_pos (by simp[Value.formed,hu,hcells])];rw[hn];simp[Program.keyLits,hu,hcells,ca,cb2,cga,cgb,oa,ob,oga,ogb,ha,hb,hga,hgb,na,nb,hx.1,hx.2.1,hx.2.2,Value.cells,pk]
 rw[if_pos (by
  intro i hi;rcases(by omega:i=0\/i=1)with rfl|rfl
  ·simpa using nga
  ·simpa using ngb)]
 rfl
section
variable {P:Program} {K T E:TypeId}
def PMap(P:Program)(K E:TypeId)(b n:Nat)(X:Pl->Option Int)(w:World):Prop:=
 ∃D:DataW Unit,w.ownsMap P K (plainElem P E) b n D/\∀x,P64 x->has D (pk x)=(X x).isSome/\D.atKey (pk x) (.lit (.int .i64 0))=.lit (.int .i64 ((X x).getD 0))
theorem PMap.made(w:World)(P)(K E):PMap P K E w.heap.size 0 (fun _=>none) (w.alloc (.map #[] 0)):=
 ⟨_,World.ownsMap_made w P K _,fun x _=>⟨rfl,rfl⟩⟩
theorem PMap.eq{b n}{X Y}{w}(h:PMap P K E b n X w)(e:∀x,X x=Y x):PMap P K E b n Y w:=by
 obtain⟨D,h,k⟩:=h;exact⟨D,h,fun x hx=>by rw[←e x];exact k x hx⟩
theorem PMap.keep{b n}{X}{w w'}(h:PMap P K E b n X w)(hb:w'.heap[b]?=w.heap[b]?):PMap P K E b n X w':=by
 obtain⟨D,h,k⟩:=h;exact⟨D,Sep.ownsMap_at h hb,k⟩
theorem PMap.store{b n}{X}{w}(h:PMap P K E b n X w)(k:Kp P K)(ht:P.underlying T=some (.map K E))(he:P.underlying E=some (.int .i64))(hn:n<maxLen){x}(hx:P64 x){t}(hw:(Lit.int .i64 t).wf=true):
  ∃w',(Instr.mapUpdate T (.map (some b)) (pv x) (.int .i64 t)).run P w=.ok () w'/\PMap P K E b (n+1) (fun y=>if y=x then some t else X y) w'/\w.mapTurned w' b:=by
 obtain⟨D,ho,kd⟩:=h;obtain⟨w',hrun,h1,h2⟩:=ho.store k.law ht hn (k.key x hx) (plainElem_int he hw);refine⟨w',hrun,⟨_,h1,fun y hy=>?_⟩,h2⟩
 by_cases e:y=x
 ·subst e;show _=(if y=y then some t else X y).isSome/\_=DataW.lit (Lit.int .i64 ((if y=y then some t else X y).getD 0));rw[if_pos rfl,has_put_same ho.isMap (k.law.key (k.key y hy)),atKey_put_same ho.isMap (k.law.key (k.key y hy))];exact⟨rfl,rfl⟩
 ·have hne:pk y≠pk x:=fun q=>e (zUz hy hx q)
  show _=(if y=x then some t else X y).isSome/\_=DataW.lit (Lit.int .i64 ((if y=x then some t else X y).getD 0));rw[if_neg e,has_put_other hne,atKey_put_other hne];exact kd y hy
theorem PMap.look{b n}{X}{w}(h:PMap P K E b n X w)(k:Kp P K)(ht:P.underlying T=some (.map K E))(he:P.underlying E=some (.int .i64))(hz:(zeroValue E).run P w=.ok (.int .i64 0) w){x}(hx:P64 x):
  (Instr.lookup T (.map (some b)) (pv x) true).run P w=.ok (.tuple #[.int .i64 ((X x).getD 0),.bool (X x).isSome]) w:=by
 obtain⟨D,ho,kd⟩:=h;have hzd:plainElem (H:=Unit) P E (.int .i64 0)=some (.lit (.int .i64 0),[]):=plainElem_int he (by decide);obtain⟨v,ps,hrun,hR⟩:=ho.look_ok k.law ht hz hzd (k.key x hx);rw[(kd x hx).2]at hR;rw[(kd x hx).1]at hrun
 have hv:v=.int .i64 ((X x).getD 0):=by
  unfold plainElem at hR;rw[he]at hR;cases v<;>simp at hR
  simp_all
 rw[hrun,hv]
end
def numX(L:List Pl)(p:Pl):Option Int:=if p∈L then some (L.idxOf p:Int)else none
theorem zQY{L}{p}(h:p∈L):numX L p=some (L.idxOf p:Int)/\L[L.idxOf p]?=some p:=by
 refine⟨if_pos h,?_⟩;have:=List.idxOf_lt_length_of_mem h;rw[List.getElem?_eq_getElem this];exact congrArg some (List.getElem_idxOf _)
theorem zNr{L}{p}(h:p∉L):numX L p=none:=if_neg h
theorem zNs{L}{p}(h:p∉L)(y):numX (L++[p]) y=if y=p then some (L.length:Int)else numX L y:=by
 unfold numX
 by_cases e:y=p
 ·subst e;rw[if_pos (List.mem_append_right _ (List.mem_singleton.2 rfl)),if_pos rfl,List.idxOf_append,if_neg h];simp
 ·rw[if_neg e]
  by_cases hy:y∈L
  ·rw[if_pos (List.mem_append_left _ hy),if_pos hy,List.idxOf_append,if_pos hy]
  ·rw[if_neg hy,if_neg];rw[List.mem_append,List.mem_singleton];exact fun q=>q.elim hy e
end Lk
namespace Lk
open Go.RowKit Go.Maps
open Gr (Gram zAF checkN top ivs)
open Im
open Au
open Fi (zAg allC canB fstB)
open Bt (SetAt)
open Rw (Bk)
structure Fk where
 aS:Option Addr
 cS:Nat
 bR:Nat
 cR:Nat
 bB:Nat
 cB:Nat
 bT:Nat
 cT:Nat
 tP:Nat->Nat->Nat
 tD:Nat->Nat->Nat
 p:Nat
 mb:Nat
noncomputable def zOm(G:Gram)(k d:Nat):Nat->Bool:=fun u=>decide (u<G.terms.length+1)&&zAg (canB G) (fstB G) ((zAF G (k:Int)).2.drop (d+1)) (u:Int)
noncomputable def zTs(G:Gram)(k d:Nat):Bool:=allC (canB G) ((zAF G (k:Int)).2.drop (d+1))
def nivs(l:List Nat):List Value:=l.map fun(k:Nat)=> .int .i64 (k:Int)
theorem zEw(l):(nivs l).length=l.length:=by simp[nivs]
structure FixAt (K:Fk) (G:Gram) (q:Whole) (w:World):Prop where
 sts:StaA K.aS (states q) w
 rules:∀k:Nat,k<=G.rules.length->∃a c,w.cell? ⟨K.bR,k*2,none⟩=some (.int .i64 (zAF G (k:Int)).1)/\w.cell? ⟨K.bR,k*2+1,none⟩=some (.slice a (zAF G (k:Int)).2.length c)/\Sep.Reads a (ivs (zAF G (k:Int)).2) w
 lefts:∀s:Nat,s<=top G->∃a c,w.cell? ⟨K.bB,s,none⟩=some (.slice a (byL G (s:Int)).length c)/\Sep.Reads a (nivs (byL G (s:Int))) w
 tails:∀k:Nat,k<=G.rules.length->∃a c,w.cell? ⟨K.bT,k,none⟩=some (.slice a (zAF G (k:Int)).2.length c)/\∀d,d<(zAF G (k:Int)).2.length->∃b,a=some ⟨b,0,none⟩/\w.cell? ⟨b,d*2,none⟩=some (.pointer (some ⟨K.tP k d,0,none⟩))/\w.cell? ⟨b,d*2+1,none⟩=some (.bool (zTs G k d))/\SetAt (K.tP k d) (K.tD k d) (G.terms.length+1) (zOm G k d) w
def PM(K:Fk):Nat->Prop:=fun b=>b=K.p\/b=K.mb
structure Fix (W:World) (K:Fk) (G:Gram) (q:Whole):Prop where
 ok:checkN G=0
 done:Done G q
 small:Small (states q)
 len:q.1.length<=2000
 at_:∀w,Sep.Fr (PM K) W w->FixAt K G q w
 plt:K.p<W.heap.size
 mlt:K.mb<W.heap.size
 pm:K.p≠K.mb
inductive Lb:Type
 |no:Lb
 |box:Lb
 |map:Lb
 |row:Lb
 |sP:Nat->Lb
 |sE:Nat->Lb
 |way:Nat->Lb
 |que:Lb
def yc(y:Way):List Value:=[y.v,.bool y.e,.int .i64 (y.to:Int)]
theorem zFw(y):(yc y).length=3:=rfl
def cc(N:Nt)(k:Nat):List Value:=[.pointer (some ⟨N.D k,0,none⟩),N.wv k,.bool (N.Wt k)]
theorem zDd(N)(k):(cc N k).length=3:=rfl
def cells(N:Nt):List Value:=(List.range N.pls.length).flatMap (cc N)
def YOk(K:Fk)(G:Gram)(y:Way):Prop:=(y.v=.pointer none/\y.f=fun _=>false)\/∃k d:Nat,k<=G.rules.length/\d<(zAF G (k:Int)).2.length/\y.v=.pointer (some ⟨K.tP k d,0,none⟩)/\y.f=zOm G k d
def nb(K:Fk)(G:Gram)(n:Nat)(cv qv:Value):Array Value:=#[.slice K.aS n K.cS,.int .i64 (G.terms.length:Int),.slice (some ⟨K.bR,0,none⟩) (G.rules.length+1) K.cR,.slice (some ⟨K.bB,0,none⟩) (top G+1) K.cB,.slice (some ⟨K.bT,0,none⟩) (G.rules.length+1) K.cT,cv,.map (some K.mb),qv]
abbrev NMap(b n:Nat)(X:Pl->Option Int)(w:World):Prop:=PMap Tryz.prog 221 3 b n X w
structure NP (W:World) (K:Fk) (G:Gram) (q:Whole) (N:Nt) (lab:Nat->Lb) (cv qv:Value) (w:World):Prop where
 fr:Sep.Fr (PM K) W w
 box:Bk K.p (nb K G (states q).length cv qv) 177 w
 row:w.ownsRow W.heap.size 219 3 cv N.pls.length (cells N)
 ways:∀k,k<N.pls.length->w.ownsRow W.heap.size 214 3 (N.wv k) (N.Ys k).length ((N.Ys k).flatMap yc)
 yok:∀k,k<N.pls.length->∀y∈N.Ys k,YOk K G y
 sets:∀k,k<N.pls.length->SetAt (N.D k) (N.E k) (G.terms.length+1) (N.S k) w
 map:NMap K.mb N.pls.length (numX N.pls) w
 queue:w.ownsRow W.heap.size 3 1 qv N.qs.length (nivs N.qs)
 lp:lab K.p=.box
 lm:lab K.mb=.map
 lr:∀g,cv.ownBlock=some g->lab g=.row
 lw:∀k,k<N.pls.length->∀g,(N.wv k).ownBlock=some g->lab g=.way k
 lP:∀k,k<N.pls.length->lab (N.D k)=.sP k
 lE:∀k,k<N.pls.length->lab (N.E k)=.sE k
 lq:∀g,qv.ownBlock=some g->lab g=.que
 low:∀b,lab b≠.no->b=K.p\/b=K.mb\/W.heap.size<=b
 inn:∀b,lab b≠.no->b<w.heap.size
section
variable {W:World} {K:Fk} {G:Gram} {q:Whole} {N:Nt} {lab:Nat->Lb} {cv qv:Value} {w w':World} {ch:Lb->Prop}
abbrev Ch(ch:Lb->Prop)(lab:Nat->Lb)(w w':World):Prop:=Sep.Fr (fun b=>ch (lab b)) w w'
theorem NP.lab_lt(h:NP W K G q N lab cv qv w){b}{L}(e:lab b=L)(hn:L≠.no):b<w.heap.size:=h.inn b (e▸hn)
theorem NP.keep(h:NP W K G q N lab cv qv w)(f:Ch ch lab w w'){b}{L}(e:lab b=L)(hn:L≠.no)(hc:¬ch L):w'.heap[b]?=w.heap[b]?:=f.block b (h.lab_lt e hn) (by rw[e];exact hc)
theorem NP.fr'(h:NP W K G q N lab cv qv w)(f:Ch ch lab w w')(hc:¬ch .no):Sep.Fr (PM K) W w':=
 ⟨f.os.trans h.fr.os,f.tape.trans h.fr.tape,f.output.trans h.fr.output,Nat.le_trans h.fr.size f.size,fun b hb hp=>by
  have hl:lab b=.no:=by
   cases e:lab b with
   |no=>rfl
   |_=>
    exfalso
    rcases h.low b (by rw[e];intro h;cases h)with r|r|r
    ·exact hp (.inl r)
    ·exact hp (.inr r)
    ·omega
  rw[f.block b (Nat.lt_of_lt_of_le hb h.fr.size) (by rw[hl];exact hc)]
  exact h.fr.block b hb hp⟩
theorem NP.box'(h:NP W K G q N lab cv qv w)(f:Ch ch lab w w')(hc:¬ch .box):Bk K.p (nb K G (states q).length cv qv) 177 w':=(h.keep f h.lp (by intro h;cases h) hc).trans h.box
theorem NP.row'(h:NP W K G q N lab cv qv w)(f:Ch ch lab w w')(hc:¬ch .row):w'.ownsRow W.heap.size 219 3 cv N.pls.length (cells N):=Sep.zAE h.row fun g hg=>h.keep f (h.lr g hg) (by intro h;cases h) hc
theorem NP.ways'(h:NP W K G q N lab cv qv w)(f:Ch ch lab w w'){k}(hk:k<N.pls.length)(hc:¬ch (.way k)):w'.ownsRow W.heap.size 214 3 (N.wv k) (N.Ys k).length ((N.Ys k).flatMap yc):=Sep.zAE (h.ways k hk) fun g hg=>h.keep f (h.lw k hk g hg) (by intro h;cases h) hc
theorem NP.sets'(h:NP W K G q N lab cv qv w)(f:Ch ch lab w w'){k}(hk:k<N.pls.length)(hP:¬ch (.sP k))(hE:¬ch (.sE k)):SetAt (N.D k) (N.E k) (G.terms.length+1) (N.S k) w':=(h.sets k hk).keep f.size (h.keep f (h.lP k hk) (by intro h;cases h) hP) (h.keep f (h.lE k hk) (by intro h;cases h) hE)
theorem NP.map'(h:NP W K G q N lab cv qv w)(f:Ch ch lab w w')(hc:¬ch .map):NMap K.mb N.pls.length (numX N.pls) w':=h.map.keep (h.keep f h.lm (by intro h;cases h) hc)
theorem NP.queue'(h:NP W K G q N lab cv qv w)(f:Ch ch lab w w')(hc:¬ch .que):w'.ownsRow W.heap.size 3 1 qv N.qs.length (nivs N.qs):=Sep.zAE h.queue fun g hg=>h.keep f (h.lq g hg) (by intro h;cases h) hc
theorem NP.went(h:NP W K G q N lab cv qv w)(hb:Below w.heap.size w w'):NP W K G q N lab cv qv w':=by
 have f:Ch (fun _=>False) lab w w':=.of_below hb;exact⟨h.fr' f id,h.box' f id,h.row' f id,fun k hk=>h.ways' f hk id,h.yok,fun k hk=>h.sets' f hk id id,h.map' f id,h.queue' f id,h.lp,h.lm,h.lr,h.lw,h.lP,h.lE,h.lq,h.low,fun b hn=>Nat.lt_of_lt_of_le (h.inn b hn) hb.size⟩
def lab1(lab:Nat->Lb)(g:Nat)(L:Lb):Nat->Lb:=fun b=>if b=g then L else lab b
theorem zC6(lab)(g)(L):lab1 lab g L g=L:=if_pos rfl
theorem zBA{lab}{g b}{L}(h:b≠g):lab1 lab g L b=lab b:=if_neg h
theorem NP.eight(h:NP W K G q N lab cv qv w):w.cell? ⟨K.p,0,none⟩=some (.slice K.aS (states q).length K.cS)/\w.cell? ⟨K.p,1,none⟩=some (.int .i64 (G.terms.length:Int))/\w.cell? ⟨K.p,2,none⟩=some (.slice (some ⟨K.bR,0,none⟩) (G.rules.length+1) K.cR)/\w.cell? ⟨K.p,3,none⟩=some (.slice (some ⟨K.bB,0,none⟩) (top G+1) K.cB)/\w.cell? ⟨K.p,4,none⟩=some (.slice (some ⟨K.bT,0,none⟩) (G.rules.length+1) K.cT)/\w.cell? ⟨K.p,5,none⟩=some cv/\w.cell? ⟨K.p,6,none⟩=some (.map (some K.mb))/\w.cell? ⟨K.p,7,none⟩=some qv:=
 ⟨h.box.cell rfl,h.box.cell rfl,h.box.cell rfl,h.box.cell rfl,h.box.cell rfl,h.box.cell rfl,h.box.cell rfl,h.box.cell rfl⟩
theorem zD2{α:Type}(f:α->List Value)(hf:∀x,(f x).length=3):∀(L:List α) (j:Nat) (hj:j<L.length) (i:Nat) (hi:i<3),(L.flatMap f)[j*3+i]?=(f L[j])[i]?
 |t::T,0,hj,i,hi=>by
  rw[List.flatMap_cons,List.getElem?_append_left (by rw[hf];omega)];simp
 |t::T,j+1,hj,i,hi=>by
  rw[List.flatMap_cons,List.getElem?_append_right (by rw[hf];omega),hf,show(j+1)*3+i-3=j*3+i by omega,zD2 f hf T j (by simpa using hj) i hi];simp
theorem zHy{α:Type}(f:α->List Value)(hf:∀x,(f x).length=3)(L:List α):(L.flatMap f).length=L.length*3:=by
 induction L with
 |nil=>rfl
 |cons a L ih=>rw[List.flatMap_cons,List.length_append,hf,ih,List.length_cons];omega
theorem zCo(N){k}(hk:k<N.pls.length)(i)(hi:i<3):(cells N)[k*3+i]?=(cc N k)[i]?:=by
 unfold cells;rw[zD2 (cc N) (zDd N) _ k (by simpa using hk) i hi,List.getElem_range]
theorem NP.cell(h:NP W K G q N lab cv qv w){k}(hk:k<N.pls.length):∃g c,cv=.slice (some ⟨g,0,none⟩) N.pls.length c/\lab g=.row/\W.heap.size<=g/\w.cell? ⟨g,k*3,none⟩=some (.pointer (some ⟨N.D k,0,none⟩))/\w.cell? ⟨g,k*3+1,none⟩=some (N.wv k)/\w.cell? ⟨g,k*3+2,none⟩=some (.bool (N.Wt k))/\∀j,w.frozen? ⟨g,j,none⟩=false:=by
 have hc:=h.row;rcases h.row.2 with⟨_,h0⟩|⟨g,cap,cur,e,hbs,hg,_⟩
 ·omega
 ·have rd:=World.ownsRow.cells h.row (g:=g) (by rw[e];rfl);refine⟨g,cap,e,h.lr g (by rw[e];rfl),hbs,?_,?_,?_,fun j=>by simp[World.frozen?,hg]⟩
  ·have:=rd (k*3+0) _ (by rw[zCo N hk 0 (by omega)];rfl);rw[WideShapes.add_plain]at this
   simpa using this
  ·have:=rd (k*3+1) _ (by rw[zCo N hk 1 (by omega)];rfl);rw[WideShapes.add_plain]at this
   simpa using this
  ·have:=rd (k*3+2) _ (by rw[zCo N hk 2 (by omega)];rfl);rw[WideShapes.add_plain]at this
   simpa using this
theorem zHj{N M}(hp:M.pls.length=N.pls.length){k i}(hk:k<N.pls.length)(hi:i<3){u}(ho:∀a,a≠k->cc M a=cc N a)(he:cc M k=(cc N k).set i u):(cells N).set (k*3+i) u=cells M:=by
 apply List.ext_getElem?
 intro j;have hl:(cells N).length=N.pls.length*3:=by unfold cells;rw[zHy _ (zDd N),List.length_range]
 by_cases hj:j<N.pls.length*3
 ·have ha:j / 3<N.pls.length:=by omega
  have e2:=zCo M (k:=j / 3) (by omega) (j % 3) (by omega);have e1:=zCo N (k:=j / 3) ha (j % 3) (by omega);rw[show j / 3*3+j % 3=j by omega]at e1 e2;rw[e2,List.getElem?_set]
  by_cases ek:j / 3=k
  ·rw[ek,he,List.getElem?_set]
   by_cases ei:i=j % 3
   ·rw[if_pos (by omega),if_pos ei,if_pos (by omega),if_pos (by rw[zDd];omega)]
   ·rw[if_neg (by omega),if_neg ei,e1,ek]
  ·rw[if_neg (by omega),e1,ho _ ek]
 ·rw[List.getElem?_eq_none (by rw[List.length_set];omega),List.getElem?_eq_none];unfold cells;rw[zHy _ (zDd M),List.length_range];omega
theorem NP.way(h:NP W K G q N lab cv qv w){k}(hk:k<N.pls.length){j}(hj):∃g c,N.wv k=.slice (some ⟨g,0,none⟩) (N.Ys k).length c/\lab g=.way k/\w.cell? ⟨g,j*3,none⟩=some (N.Ys k)[j].v/\w.cell? ⟨g,j*3+1,none⟩=some (.bool (N.Ys k)[j].e)/\w.cell? ⟨g,j*3+2,none⟩=some (.int .i64 ((N.Ys k)[j].to:Int)):=by
 have hr:=h.ways k hk;rcases hr.2 with⟨_,h0⟩|⟨g,cap,cur,e,hbs,hg,_⟩
 ·omega
 ·have rd:=World.ownsRow.cells hr (g:=g) (by rw[e];rfl);refine⟨g,cap,e,h.lw k hk g (by rw[e];rfl),?_,?_,?_⟩
  ·have:=rd (j*3+0) _ (by rw[zD2 yc zFw _ j hj 0 (by omega)];rfl);rw[WideShapes.add_plain]at this
   simpa using this
  ·have:=rd (j*3+1) _ (by rw[zD2 yc zFw _ j hj 1 (by omega)];rfl);rw[WideShapes.add_plain]at this
   simpa using this
  ·have:=rd (j*3+2) _ (by rw[zD2 yc zFw _ j hj 2 (by omega)];rfl);rw[WideShapes.add_plain]at this
   simpa using this
theorem NP.look(h:NP W K G q N lab cv qv w)(k:Kp Tryz.prog 221)(hz:∀w:World,(zeroValue 3).run Tryz.prog w=.ok (.int .i64 0) w){x}(hx:P64 x):
  (Instr.lookup 173 (.map (some K.mb)) (pv x) true).run Tryz.prog w=.ok (.tuple #[.int .i64 ((numX N.pls x).getD 0),.bool (numX N.pls x).isSome]) w:=
 h.map.look k Tryz.underlying173 Tryz.underlying3 (hz w) hx
end
