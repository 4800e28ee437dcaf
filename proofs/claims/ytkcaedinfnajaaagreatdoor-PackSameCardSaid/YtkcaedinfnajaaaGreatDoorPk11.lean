/- A part of the proof. -/
import Derived.Maps.RangeWalk
import Derived.Sort.MapsRangeIn
import Derived.Sort.KeysCollected
import Derived.RangeFuncSeq
import Derived.DeepKeys4
import Derived.Test.YtkcaedinfnajaaaGreatDoorPk07
import Derived.Test.YtkcaedinfnajaaaGreatDoorPk10
set_option maxHeartbeats 1000000
set_option maxRecDepth 100000
set_option linter.unusedVariables false
namespace Go.Proofs.YtkcaedinfnajaaaGreatDoor
open Go.RowKit Go.Maps
namespace Im
section
variable {H:Type} {P:Program} {K T E:TypeId} {R:Value->Option (DataW H×List MemPlace)}
def Dat(u:DataW H)(D:DataW H)(X:Itm->Prop):Prop:=∀x,W64 x->(X x/\∀z,D.atKey (ik x) z=u)\/(¬X x/\∀z,D.atKey (ik x) z=z)
theorem Dat.has{u D:DataW H}{X:Itm->Prop}(h:Dat u D X){x:Itm}(hx:W64 x):has D (ik x)=true↔X x:=by
 rcases h x hx with⟨q,e⟩|⟨q,e⟩
 ·exact⟨fun _=>q,fun _=>has_true_of_atKey e⟩
 ·exact⟨fun k=>(by rw[has_false_of_atKey e]at k;exact Bool.noConfusion k),fun k=>absurd k q⟩
theorem MSet.tight{u:DataW H}{b n:Nat}{X:Itm->Prop}{w:World}(h:MSet P K R u b n X w)(k:Kt P K)(M:List Itm)(hM:∀x,W64 x->X x->x∈M):MSet P K R u b M.length X w:=by
 obtain⟨D,ho,kd⟩:=h;obtain⟨es,eD,hpw,_⟩:=ho.entries k.law;obtain⟨es',eD',hko⟩:=ho.keysOf;obtain rfl:es=es':=by rw[eD]at eD';simpa using eD'
 have hk:∀p∈es,∃x,W64 x/\p.1=ik x:=fun p hp=>by
  obtain⟨v,hv⟩:=hko p hp;obtain⟨x,hx,_,e⟩:=k.inv _ _ hv;exact⟨x,hx,e⟩
 have hX:∀p∈es,∀x,W64 x->p.1=ik x->X x:=fun p hp x hx e=>by
  refine(Dat.has kd hx).1 ?_;rw[eD,has_eq,List.any_eq_true];refine⟨p,hp,?_⟩;rw[e];exact WideAt.sameKey_self (k.law.key (k.key x hx))
 have hlen:es.length<=M.length:=by
  have key:∀(l:List (Lit×DataW H)),(∀p∈l,p∈es)->l.Pairwise (fun p q=>p.1≠q.1)->∃s:List Itm,s.length=l.length/\s.Nodup/\∀x∈s,W64 x/\∃p∈l,p.1=ik x:=by
   intro l
   induction l with
   |nil=>exact fun _ _=>⟨[],rfl,List.nodup_nil,fun x hx=>by cases hx⟩
   |cons p l ih=>
    intro hl hp;have hp':=List.pairwise_cons.1 hp;obtain⟨s,e1,e2,e3⟩:=ih (fun q hq=>hl q (List.mem_cons_of_mem _ hq)) hp'.2;obtain⟨x,hx,ex⟩:=hk p (hl p (List.mem_cons_self ..));refine⟨x::s,by simp[e1],List.nodup_cons.2 ⟨fun hs=>?_,e2⟩,fun y hy=>?_⟩
    ·obtain⟨_,q,hq,eq⟩:=e3 x hs;exact hp'.1 q hq (ex.trans eq.symm)
    ·rcases List.mem_cons.1 hy with e|hy
     ·subst e;exact⟨hx,p,List.mem_cons_self ..,ex⟩
     ·obtain⟨h1,q,hq,eq⟩:=e3 y hy;exact⟨h1,q,List.mem_cons_of_mem _ hq,eq⟩
  obtain⟨s,e1,e2,e3⟩:=key es (fun _ h=>h) hpw;rw[←e1]
  exact zDW e2 fun x hx=>by
   obtain⟨h1,p,hp,e⟩:=e3 x hx;exact hM x h1 (hX p hp x h1 e)
 obtain⟨ms,clock,h1,h2,h3,h4⟩:=ho;refine⟨D,⟨ms,clock,h1,h2,?_,h4⟩,kd⟩;rw[eD]at h4
 have e5:es.length=ms.size:=by
  have h4':=h4;simp only[DataW.map.injEq]at h4';rw[h4',length_sorted];simp
 omega
def Over(Lf:Itm->Prop):Prop:=∀x,W64 x->¬Lf x
def MRan(P:Program)(K:TypeId)(R:Value->Option (DataW H×List MemPlace))(u:DataW H)(b r n q:Nat)(X Lf:Itm->Prop)(w:World):Prop:=
 ∃D left cnt,w.ranges P K R b r n D left cnt/\Dat u D X/\(∀x,W64 x->(left (ik x)=true↔Lf x))/\q+cnt<=n
theorem MRan.keep{u:DataW H}{b r n q:Nat}{X Lf:Itm->Prop}{w w':World}(h:MRan P K R u b r n q X Lf w)(hb:w'.heap[b]?=w.heap[b]?)(hr:w'.heap[r]?=w.heap[r]?):MRan P K R u b r n q X Lf w':=by
 obtain⟨D,left,cnt,⟨es,clock,since,seen,c0,g1,g2,g3,g4,g5,g6⟩,k⟩:=h;exact⟨D,left,cnt,⟨es,clock,since,seen,c0,hb.trans g1,g2,g3,g4,hr.trans g5,g6⟩,k⟩
theorem MRan.lt{u:DataW H}{b r n q:Nat}{X Lf:Itm->Prop}{w:World}(h:MRan P K R u b r n q X Lf w):b<w.heap.size/\r<w.heap.size/\r≠b:=by
 obtain⟨D,left,cnt,h,_⟩:=h;exact⟨h.owns.lt,h.lt,h.ne⟩
theorem MRan.went{u:DataW H}{b r n q:Nat}{X Lf:Itm->Prop}{w w':World}(h:MRan P K R u b r n q X Lf w)(hb:Below w.heap.size w w'):MRan P K R u b r n q X Lf w':=h.keep (hb.block b h.lt.1) (hb.block r h.lt.2.1)
theorem MRan.left_keep{b r:Nat}{w w':World}(hb:w'.heap[b]?=w.heap[b]?)(hr:w'.heap[r]?=w.heap[r]?):w'.rangeLeft b r=w.rangeLeft b r:=by
 unfold World.rangeLeft;rw[hb,hr]
theorem MRan.walks{u:DataW H}{b r n q:Nat}{X Lf:Itm->Prop}{w w':World}(h:MRan P K R u b r n q X Lf w)(hk:KeepsWalks w w'):MRan P K R u b r n q X Lf w'/\w'.rangeLeft b r=w.rangeLeft b r:=by
 obtain⟨D,left,cnt,h,k⟩:=h;have h':=h.of_walks hk;exact⟨⟨D,left,cnt,h',k⟩,by rw[h'.left_eq,h.left_eq]⟩
theorem MRan.iter_walk{u:DataW H}{b r n q:Nat}{X Lf:Itm->Prop}{w:World}(h:MRan P K R u b r n q X Lf w):∃o:Obj,w.heap[r]?=some o/\o.isWalk=true:=by
 obtain⟨D,left,cnt,h,k⟩:=h;exact h.iter_walk
theorem MRan.start{u D:DataW H}{b r n:Nat}{X:Itm->Prop}{w:World}(k:Kt P K)(ho:w.ownsMap P K R b n D)(kd:Dat u D X){w':World}(h:w'.ranges P K R b r n D (Maps.has D) (Maps.size D)):MRan P K R u b r n 0 X X w':=by
 refine⟨D,_,_,h,kd,fun x hx=>Dat.has kd hx,?_⟩;obtain⟨ms,clock,h1,h2,h3,h4⟩:=ho;subst h4;simp only[Maps.size,length_sorted,List.length_map,Array.length_toList];omega
theorem MRan.step{u D:DataW H}{b r n q cnt cnt2:Nat}{X Lf:Itm->Prop}{w':World}{left:Lit->Bool}(k:Kt P K)(kd:Dat u D X)(hl:∀x,W64 x->(left (ik x)=true↔Lf x))(hq:q+cnt<=n){x:Itm}(hx:W64 x)
  (h:w'.ranges P K R b r n D (fun z=>left z&& !z.sameKey (ik x)) cnt2) (hc:cnt2<cnt):MRan P K R u b r n (q+1) X (fun y=>Lf y/\y≠x) w':=by
 refine⟨D,_,_,h,kd,fun y hy=>?_,by omega⟩;dsimp only;rw[Bool.and_eq_true,hl y hy];refine and_congr_right fun _=>?_
 constructor
 ·intro e1 e2;subst e2;rw[WideAt.sameKey_self (k.law.key (k.key y hy))]at e1;exact Bool.noConfusion e1
 ·intro e1;rw[sameKey_ne fun e2=>e1 (zMl hy hx e2)]
  rfl
variable {ops:Array Oper} {rest:List Oper} {o:Oper} {a:Act} {Q:Exit->Act->World->Prop}
theorem zD2(w:World)(hg:o.guard=none)(m:Operand)(hop:o.op=Op.range T m)(k:Kt P K)(ht:P.underlying T=some (.map K E))(u:DataW H)(b n:Nat)(X:Itm->Prop)(hm:a.eval m=.map (some b))(h:MSet P K R u b n X w)
  (hK:∀w',MRan P K R u b w.heap.size n 0 X X w'->w.grownBy w' none->w'.heap.size=w.heap.size+1->wpList P ops Q rest (a.put o.dst (.pointer (some ⟨w.heap.size,0,none⟩))) w'):
  wpList P ops Q (o::rest) a w:=by
 obtain⟨D,ho,kd⟩:=h;exact wpList_range_own w hg m T hop K E k.law ht R b n D hm ho fun w' r1 r2 r3=>hK w' (MRan.start k ho kd r1) r2 r3
theorem zEI(w:World)(hg:o.guard=none)(it:Operand)(hop:o.op=Op.next it false)(k:Kt P K)(b r n q:Nat)(X Lf:Itm->Prop)(hit:a.eval it=.pointer (some ⟨r,0,none⟩))(h:MRan (H:=H) P K unitElem (.agg []) b r n q X Lf w)
  (hDone:Over Lf->wpList P ops Q rest (a.put o.dst (.tuple #[.bool false])) w)
  (hMore:∀(x:Itm) (w':World),W64 x->Lf x->X x->MRan (H:=H) P K unitElem (.agg []) b r n (q+1) X (fun y=>Lf y/\y≠x) w'->w'.rangeLeft b r<w.rangeLeft b r->w.grownBy w' (some r)->w'.heap.size=w.heap.size->
   (Instr.entry (.pointer (some ⟨r,0,none⟩))).run P w'=.ok (.tuple #[iv x,.agg #[]]) w'->wpList P ops Q rest (a.put o.dst (.tuple #[.bool true,iv x,.agg #[]])) w'):
  wpList P ops Q (o::rest) a w:=by
 obtain⟨D,left,cnt,h,kd,hl,hq⟩:=h
 refine wpList_next_ranges w hg it hop K k.law unitElem iv (fun _:Unit=> .agg #[]) (fun key kl hk=>by obtain⟨x,_,e,_⟩:=k.inv key kl hk;exact⟨x,e⟩) (fun v y hv=>⟨(),(unitElem_inv hv).1⟩) b r n D left cnt hit h
  (fun _ hl0=>hDone fun x hx=>by rw[←hl x hx,hl0];exact Bool.noConfusion) ?_
 intro x c kl y w' cnt' hkey hlk hv hat hrg hlt hgr hsz hen;obtain⟨x',hx,e1,rfl⟩:=k.inv _ _ hkey
 obtain rfl:x=x':=by
  have:=e1;unfold iv at this;simp at this;exact Prod.ext this.1 this.2
 exact hMore x w' hx ((hl x hx).1 hlk) ((Dat.has kd hx).1 (has_true_of_atKey hat)) (MRan.step k kd hl hq hx hrg hlt) (by rw[hrg.left_eq,h.left_eq];exact hlt) hgr hsz hen
variable {F:Fence} {m:Nat}
theorem zDH(w:World)(hg:o.guard=none)(mo:Operand)(hop:o.op=Op.range T mo)(k:Kt P K)(ht:P.underlying T=some (.map K E))(u:DataW H)(b n:Nat)(X:Itm->Prop)(hm:a.eval mo=.map (some b))(h:MSet P K R u b n X w)
  (hK:∀w',MRan P K R u b w.heap.size n 0 X X w'->w.grownBy w' none->w'.heap.size=w.heap.size+1->wpListIn F m P ops Q rest (a.put o.dst (.pointer (some ⟨w.heap.size,0,none⟩))) w'):
  wpListIn F m P ops Q (o::rest) a w:=by
 obtain⟨D,ho,kd⟩:=h;exact wpListIn_range_own w hg mo T hop K E k.law ht R b n D hm ho fun w' r1 r2 r3=>hK w' (MRan.start k ho kd r1) r2 r3
theorem zDj(w:World)(hg:o.guard=none)(it:Operand)(hop:o.op=Op.next it false)(k:Kt P K)(b r n q:Nat)(X Lf:Itm->Prop)(hit:a.eval it=.pointer (some ⟨r,0,none⟩))(h:MRan (H:=H) P K unitElem (.agg []) b r n q X Lf w)
  (hDone:Over Lf->wpListIn F m P ops Q rest (a.put o.dst (.tuple #[.bool false])) w)
  (hMore:∀(x:Itm) (w':World),W64 x->Lf x->X x->MRan (H:=H) P K unitElem (.agg []) b r n (q+1) X (fun y=>Lf y/\y≠x) w'->w'.rangeLeft b r<w.rangeLeft b r->w.grownBy w' (some r)->w'.heap.size=w.heap.size->
   (Instr.entry (.pointer (some ⟨r,0,none⟩))).run P w'=.ok (.tuple #[iv x,.agg #[]]) w'->wpListIn F m P ops Q rest (a.put o.dst (.tuple #[.bool true,iv x,.agg #[]])) w'):
  wpListIn F m P ops Q (o::rest) a w:=by
 obtain⟨D,left,cnt,h,kd,hl,hq⟩:=h
 refine wpListIn_next_ranges w hg it hop K k.law unitElem iv (fun _:Unit=> .agg #[]) (fun key kl hk=>by obtain⟨x,_,e,_⟩:=k.inv key kl hk;exact⟨x,e⟩) (fun v y hv=>⟨(),(unitElem_inv hv).1⟩) b r n D left cnt hit h
  (fun _ hl0=>hDone fun x hx=>by rw[←hl x hx,hl0];exact Bool.noConfusion) ?_
 intro x c kl y w' cnt' hkey hlk hv hat hrg hlt hgr hsz hen;obtain⟨x',hx,e1,rfl⟩:=k.inv _ _ hkey
 obtain rfl:x=x':=by
  have:=e1;unfold iv at this;simp at this;exact Prod.ext this.1 this.2
 exact hMore x w' hx ((hl x hx).1 hlk) ((Dat.has kd hx).1 (has_true_of_atKey hat)) (MRan.step k kd hl hq hx hrg hlt) (by rw[hrg.left_eq,h.left_eq];exact hlt) hgr hsz hen
end
end Im
namespace Im
open Gr (Gram Sh gv GAt Bx boxed zAY zAE zDd zAC zAR cell_later zAF)
theorem zVH:laidOutB Tryz.prog=true:=by kernel_rfl
theorem rowI:154<Tryz.prog.types.size:=of_decide_eq_true (by kernel_rfl)
theorem lawI:Keyed Tryz.prog 154:=.of_law (deep_law_laid zVH (m:=2) (by omega) rowI (by kernel_rfl) (by rw[Tryz.underlying154]))
theorem ktI:Kt Tryz.prog 154:=
 zVF _ _ lawI Tryz.underlying154 Tryz.underlying3 Tryz.underlying3 (by kernel_rfl) (by kernel_rfl) (by kernel_rfl) (by kernel_rfl) rfl rfl (by decide) (by decide) (Tryz.prog.types.size-1) (by have:=rowI;omega)
theorem zUo(w:World):(zeroValue 261).run Tryz.prog w=.ok (.agg #[]) w:=by kernel_rfl
abbrev MS(b n:Nat)(X:Itm->Prop)(w:World):Prop:=MSet (H:=Nat) Tryz.prog 154 unitElem (.agg []) b n X w
abbrev MR(b r n q:Nat)(X Lf:Itm->Prop)(w:World):Prop:=MRan (H:=Nat) Tryz.prog 154 unitElem (.agg []) b r n q X Lf w
structure Bi (W:World) (h:Sh) (G:Gram) (x:Itm) (w:World):Prop where
 bx:Bx W h G w
 i0:w.cell? ⟨W.heap.size+1,0,none⟩=some (.int .i64 x.1)
 i1:w.cell? ⟨W.heap.size+1,1,none⟩=some (.int .i64 x.2)
theorem Bi.start(h:Sh)(G:Gram)(x:Itm)(w:World)(T U:TypeId):Bi w h G x ((w.alloc (.cells #[.slice h.a1 G.terms.length h.c1,.slice h.a2 G.nons.length h.c2,.slice h.a3 G.rules.length h.c3,.int .i64 G.start] T)).alloc (.cells #[.int .i64 x.1,.int .i64 x.2] U)):=
 ⟨(Bx.start h G w T).alloc _,zAC (by simp) rfl,zAC (by simp) rfl⟩
theorem Bi.went{W:World}{h:Sh}{G:Gram}{x:Itm}{w w':World}(k:Bi W h G x w)(hb:Below w.heap.size w w'):Bi W h G x w':=⟨k.bx.went hb,cell_later hb k.i0,cell_later hb k.i1⟩
theorem Bi.alloc{W:World}{h:Sh}{G:Gram}{x:Itm}{w:World}(k:Bi W h G x w)(o:Obj):Bi W h G x (w.alloc o):=k.went (boxed _ _)
theorem Bi.below{W:World}{h:Sh}{G:Gram}{x:Itm}{w:World}(k:Bi W h G x w):Below W.heap.size W w:=k.bx.below
theorem zGH(h:Sh)(G:Gram)(w:World)(k:GAt h G w):
  Calls Tryz.prog 104 #[gv h G] w (Gr.Is (.int .i64 (G.rules.length:Int)) w):=by
 have t:=k.r2;clear k;unfold gv;go_enter Tryz.func104,Tryz.ntmps104;go_wp2;go_ret;exact⟨rfl,boxed _ _⟩
theorem zQZ{G:Gram}{x:Itm}:zAJ G x=(zAY G x.1&&decide (0<=x.2)&&decide (x.2<=((zAE G x.1).2.length:Int))):=by
 unfold zAJ rlen;rw[Bool.and_assoc]
 congr 1
 rw[Bool.eq_iff_iff];simp
theorem zEK(h:Sh)(G:Gram)(x:Itm)(w:World)(k:GAt h G w):
  Calls Tryz.prog 187 #[gv h G,iv x] w (Gr.Is (.bool (zAJ G x)) w):=by
 have R:=zVZ (fun w1 (b:Below w.heap.size w w1)=>zDd h G x.1 w1 (k.went b));clear k;rw[zQZ];obtain⟨xr,xd⟩:=x;generalize zAE G (xr,xd).1=r at R⊢;generalize zAY G (xr,xd).1=rb at R⊢;have X:=zVZ (Bi.start h G (xr,xd) w 41 154);unfold gv iv;dsimp only at R X⊢;go_enter Tryz.func187,Tryz.ntmps187;go_wp2_with (go_at_call 75;refine(R.out _ X.out.below).mono ?_;rintro e w1 ⟨a,c,rfl,hr,hb⟩;have X:=zVZ ((X.out.went hb).alloc (.cells #[.int .i64 r.1,.slice a r.2.length c] 55));have HR:=zVZ hr;have y0:=X.out.i0;have y1:=X.out.i1;clear hb hr)
 all_goals
  go_ret;exact⟨zAF (by first|(simp_all;done)|(simp_all;omega)),X.out.below⟩
def zLB(G:Gram)(x:Itm):Bool:=decide (0<=x.2/\x.2<((zAE G x.1).2.length:Int))
def zPx(G:Gram)(x:Itm):Int:=if zLB G x then(zAE G x.1).2.getD x.2.toNat 0 else 0
theorem zSm{G:Gram}{x:Itm}(h:zAJ G x=true):zLB G x=behB G x/\zPx G x=behV G x:=by
 have e:zLB G x=behB G x:=by
  have:=zAQ.1 h;rw[Bool.eq_iff_iff,zAo];unfold zLB;rw[decide_eq_true_iff];exact⟨fun k=>⟨h,k.2⟩,fun k=>⟨this.2.1,k.2⟩⟩
 exact⟨e,by unfold zPx behV;rw[e]⟩
theorem zKW(h:Sh)(G:Gram)(x:Itm)(w:World)(k:GAt h G w):
  Calls Tryz.prog 189 #[gv h G,iv x] w (Gr.Is (.tuple #[.int .i64 (zPx G x),.bool (zLB G x)]) w):=by
 have R:=zVZ (fun w1 (b:Below w.heap.size w w1)=>zDd h G x.1 w1 (k.went b));clear k;unfold zPx zLB;obtain⟨xr,xd⟩:=x;generalize zAE G (xr,xd).1=r at R⊢;generalize zAY G (xr,xd).1=rb at R⊢;have X:=zVZ (Bi.start h G (xr,xd) w 41 154);unfold gv iv;dsimp only at R X⊢
 by_cases h1:0<=xd/\xd<(r.2.length:Int)
 ·obtain⟨j,rfl⟩:=Int.eq_ofNat_of_zero_le h1.1;have hj:j<r.2.length:=by omega
  have e1:decide (0<=(j:Int)/\(j:Int)<(r.2.length:Int))=true:=decide_eq_true h1;rw[e1,if_pos rfl,show r.2.getD (Int.toNat (j:Int)) 0=r.2[j]by simp[hj]];clear e1;go_enter Tryz.func189,Tryz.ntmps189;go_wp2_with (go_at_call 75;refine(R.out _ X.out.below).mono ?_;rintro e w1 ⟨a,c,rfl,hr,hb⟩;have X:=zVZ ((X.out.went hb).alloc (.cells #[.int .i64 r.1,.slice a r.2.length c] 55));have HR:=zVZ hr;have y0:=X.out.i0;have y1:=X.out.i1;obtain⟨b2,o2,e2,z⟩:=hr j (by simpa[Gr.ivs]using hj);subst e2;have z:=zAR (o:=.cells #[.int .i64 r.1,.slice (some ⟨b2,o2,none⟩) r.2.length c] 55) z;clear hb hr);go_ret2;exact⟨by simp[Gr.ivs,Gr.iv],X.out.below⟩
 ·have e1:decide (0<=xd/\xd<(r.2.length:Int))=false:=decide_eq_false h1;rw[e1]
  by_cases h2:xd<0
  ·clear h1 e1;go_enter Tryz.func189,Tryz.ntmps189;go_wp2_with (go_at_call 75;refine(R.out _ X.out.below).mono ?_;rintro e w1 ⟨a,c,rfl,hr,hb⟩;have X:=zVZ ((X.out.went hb).alloc (.cells #[.int .i64 r.1,.slice a r.2.length c] 55));have y0:=X.out.i0;have y1:=X.out.i1;clear hb hr)
   all_goals
    go_ret2;exact⟨rfl,X.out.below⟩
  ·have h3:(r.2.length:Int)<=xd:=by omega
   have h4:0<=xd:=by omega
   clear h1 e1;go_enter Tryz.func189,Tryz.ntmps189;go_wp2_with (go_at_call 75;refine(R.out _ X.out.below).mono ?_;rintro e w1 ⟨a,c,rfl,hr,hb⟩;have X:=zVZ ((X.out.went hb).alloc (.cells #[.int .i64 r.1,.slice a r.2.length c] 55));have y0:=X.out.i0;have y1:=X.out.i1;clear hb hr)
   all_goals
    go_ret2;exact⟨rfl,X.out.below⟩
theorem zBs{w w':World}{b:Nat}(h:w.mapTurned w' b):Sep.Fr (· =b) w w':=by
 obtain⟨es,c,es',c',h1,rfl⟩:=h;exact⟨rfl,rfl,rfl,by simp[ChangeMaps.setBlock],fun k _ hk=>ChangeMaps.heap_setBlock_other h1 _ hk⟩
theorem zCd(x:Itm)(hx:W64 x)(b n:Nat)(Y:Itm->Prop)(w:World)(hs:MS b n Y w)(hn:n<maxLen):
  Calls Tryz.prog 188 #[.map (some b),iv x] w fun e w'=>∃c:Bool,(c=true↔¬Y x)/\e=.returned (.bool c)/\MS b (n+1) (fun y=>Y y\/y=x) w'/\Sep.Fr (· =b) w w':=by
 have S:=zVZ (fun w1 (k:Below w.heap.size w w1)=>hs.went k);clear hs;have z0:=zUo;unfold iv;go_enter Tryz.func188,Tryz.ntmps188
 go_wp2_with (first
  |(at_lookup;refine zEC rfl fun K' hK'=>zIA _ _ _ rfl ktI Tryz.underlying223 (zUo _) b n Y rfl (S.out _ (boxed _ _)) x rfl hx fun c hc=>hK' _ _ ?_)
  | (at_mapUpdate;refine zEC rfl fun K' hK'=>zJC _ _ _ _ rfl ktI Tryz.underlying223 (.agg []) b n Y rfl (S.out _ ((boxed _ _).trans ((boxed _ _).mono (by simp)))) hn x rfl hx [] unitElem_mk fun w2 m1 m2=>hK' _ _ ?_;have M1:=zVZ m1;have M2:=zVZ m2;clear m1 m2))
 ·have hct:c=true:=by assumption
  go_ret;refine⟨false,⟨fun e=>Bool.noConfusion e,fun e=>absurd (hc.1 hct) e⟩,rfl,((S.out _ ((boxed _ _).trans ((boxed _ _).mono (by simp)))).mono (Nat.le_succ n)).iff fun y _=>?_,.of_below ((boxed _ _).trans ((boxed _ _).mono (by simp)))⟩;exact⟨.inl,fun e=>e.elim id fun e=>e▸hc.1 hct⟩
 ·go_ret;refine⟨true,⟨fun _ e=>?_,fun _=>rfl⟩,rfl,M1.out,?_⟩
  ·have q:=hc.2 e;simp_all
  ·exact(Sep.Fr.of_below ((boxed _ _).trans ((boxed _ _).mono (by simp)))).trans (zBs M2.out) (.refl _ _)
