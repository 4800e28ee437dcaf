/- Proof. -/
import Derived.Test.YtegeamggbglneaaGreatDoorPk36
set_option maxHeartbeats 2000000
set_option maxRecDepth 100000
set_option linter.unusedVariables false
namespace Go.Proofs.YtegeamggbglneaaGreatDoor
open Go.RowKit Go.Maps
namespace Au
open Gr (ai Sh oJ cell_later step)
open Im
theorem zWa:laidOutB Tryz.prog=true:=by kernel_rfl
theorem jd:202<Tryz.prog.types.size:=of_decide_eq_true (by kernel_rfl)
theorem Lj:Keyed Tryz.prog 202:=.of_law (deep_law_laid zWa (m:=2) (by omega) jd (by kernel_rfl) (by rw[Tryz.underlying202]))
theorem Lg:Ka Tryz.prog 202:=
 zWW Lj Tryz.underlying202 Tryz.underlying3 (by kernel_rfl) (by kernel_rfl) (by kernel_rfl) (Tryz.prog.types.size-1) (by have:=jd;omega)
theorem xZ:Keyed Tryz.prog 9:=string_keyed Tryz.underlying9
theorem IB(w):(zeroValue 3).run Tryz.prog w=.ok (.int .i64 0) w:=by kernel_rfl
theorem Wm:(Tryz.prog.info? 169).map (fun i=>(i.zero,i.size,i.bytes))=some (some (.slice none 0 0),1,24):=by kernel_rfl
abbrev TM(b n:Nat)(X:au->Option Int)(w:World):Prop:=fe Tryz.prog 202 3 b n X w
abbrev SM(b n:Nat)(L:List ByteArray)(w:World):Prop:=SMap Tryz.prog 9 3 b n L w
def pO(S:Nat->Prop)(K:List au)(u:Value)(w:World):Prop:=∃a c,u=.slice a K.length c/\K.length<=c/\bG a K w/\(K≠[]->∀b o,a=some ⟨b,o,none⟩->¬S b)
theorem pO.fr{S T}{K}{u}{w w'}(h:pO S K u w)(f:Sep.Fr S w w')(x:Sep.Ext T S w):pO T K u w':=by
 obtain⟨a,c,h1,h2,h3,h4⟩:=h
 by_cases hn:K=[]
 ·subst hn;exact⟨a,c,h1,h2,.nil _ _,fun q=>absurd rfl q⟩
 ·refine⟨a,c,h1,h2,h3.keep fun b o e=>f.block b (z7 h3 hn e) (h4 hn b o e),fun _ b o e q=>?_⟩;have:=z7 h3 hn e;rcases x b q with r|r
  ·exact h4 hn b o e r
  ·omega
theorem pO.went{S}{K}{u}{w w'}(h:pO S K u w)(hb:Below w.heap.size w w'):pO S K u w':=h.fr (.of_below hb) (.refl _ _)
structure Parts (W:World) (p:Nat) (S:Nat->Prop) (h:Sh) (G:ai) (ks:List (List au)) (X:au->Option Int) (n:Nat) (a:Option Addr) (c bt bn:Nat) (us:List Value) (w:World):Prop where
 below:Below W.heap.size W w
 box:oJ p h G w
 items:w.cell? ⟨p,4,none⟩=some (.slice a ks.length c)
 targets:w.cell? ⟨p,5,none⟩=some (.map (some bt))
 numbers:w.cell? ⟨p,6,none⟩=some (.map (some bn))
 free:w.frozen? ⟨p,4,none⟩=false
 row:w.ownsRow W.heap.size 169 1 (.slice a ks.length c) ks.length us
 lists:∀i (h:i<ks.length) (h':i<us.length),pO S ks[i] us[i] w
 tm:TM bt n X w
 sm:SM bn ks.length (lu ks) w
 sp:S p
 st:S bt
 sn:S bn
 sr:∀g,(Value.slice a ks.length c).ownBlock=some g->S g
 tp:bt≠p
 np:bn≠p
 tn:bt≠bn
 rp:∀g,(Value.slice a ks.length c).ownBlock=some g->g≠p/\g≠bt/\g≠bn
 low:∀k,S k->W.heap.size<=k
 bK:Sep.di S w
theorem Parts.len{W}{p}{S}{h}{G}{ks}{X}{n}{a}{c bt bn}{us}{w}(k:Parts W p S h G ks X n a c bt bn us w):us.length=ks.length:=by
 have:=k.row.1;omega
theorem Parts.went{W}{p}{S}{h}{G}{ks}{X}{n}{a}{c bt bn}{us}{w w'}(k:Parts W p S h G ks X n a c bt bn us w)(hb:Below w.heap.size w w'):Parts W p S h G ks X n a c bt bn us w':=
 ⟨Gr.step k.below hb,k.box.later hb,cell_later hb k.items,cell_later hb k.targets,cell_later hb k.numbers,(World.frozen?_of_block (a:=⟨p,4,none⟩) (hb.block p (k.bK p k.sp))).trans k.free,Sep.bS k.row fun g hg=>hb.block g (k.bK g (k.sr g hg)),fun i h1 h2=>(k.lists i h1 h2).went hb,k.tm.keep (hb.block _ (k.bK _ k.st)),k.sm.keep (hb.block _ (k.bK _ k.sn)),k.sp,k.st,k.sn,k.sr,k.tp,k.np,k.tn,k.rp,k.low,k.bK.le hb.size⟩
def im(W:World)(p:Nat)(S:Nat->Prop)(h:Sh)(G:ai)(ks:List (List au))(X:au->Option Int)(n:Nat)(w:World):Prop:=∃a c bt bn us,Parts W p S h G ks X n a c bt bn us w
theorem im.went{W}{p}{S}{h}{G}{ks}{X}{n}{w w'}(k:im W p S h G ks X n w)(hb:Below w.heap.size w w'):im W p S h G ks X n w':=by
 obtain⟨a,c,bt,bn,us,k⟩:=k;exact⟨a,c,bt,bn,us,k.went hb⟩
theorem im.bK{W}{p}{S}{h}{G}{ks}{X}{n}{w}(k:im W p S h G ks X n w):Sep.di S w:=by
 obtain⟨a,c,bt,bn,us,k⟩:=k;exact k.bK
theorem im.eq{W}{p}{S}{h}{G}{ks}{X Y}{n m}{w}(k:im W p S h G ks X n w)(e:∀x,X x=Y x)(hm:n<=m):im W p S h G ks Y m w:=by
 obtain⟨a,c,bt,bn,us,k⟩:=k;exact⟨a,c,bt,bn,us,{k with tm:=(k.tm.eq e).mono hm}⟩
theorem Parts.at{W}{p}{S}{h}{G}{ks}{X}{n}{a}{c bt bn}{us}{w}(k:Parts W p S h G ks X n a c bt bn us w){i}(hi):
  ∃b a' c',a=some ⟨b,0,none⟩/\w.cell? ⟨b,i,none⟩=some (.slice a' ks[i].length c')/\ks[i].length<=c'/\bG a' ks[i] w/\(ks[i]≠[]->∀b o,a'=some ⟨b,o,none⟩->¬S b):=by
 have hl:=k.len;obtain⟨a',c',e,h1,h2,h3⟩:=k.lists i hi (by omega);rcases k.row.2 with⟨_,h0⟩|⟨g,cap,cur,he,_⟩
 ·omega
 ·simp only[Value.slice.injEq]at he;obtain⟨rfl,_,_⟩:=he;have:=World.ownsRow.cells k.row (g:=g) rfl i us[i] (List.getElem?_eq_getElem (by omega));rw[WideShapes.add_plain]at this;refine⟨g,a',c',rfl,?_,h1,h2,h3⟩;rw[←e]
  simpa using this
theorem zUM{W}{p}{S}{h}{G}{ks}{X}{n}{a}{c bt bn}{us}{w}(k:Parts W p S h G ks X n a c bt bn us w):(Value.slice a ks.length c).ownBlock=none\/(Value.slice a ks.length c).ownBlock≠some bn:=by
 cases hb:(Value.slice a ks.length c).ownBlock with
 |none=>exact .inl rfl
 |some g=>exact .inr fun e=>(k.rp g hb).2.2 (by injection e)
theorem Parts.turn{W}{p}{S}{h}{G}{ks}{X Y}{n m}{a}{c bt bn}{us}{w w'}(k:Parts W p S h G ks X n a c bt bn us w)(f:Sep.Fr (· =bt) w w')(ht:TM bt m Y w'):Parts W p S h G ks Y m a c bt bn us w':=
 have e (q:Nat) (hq:S q) (hne:q≠bt):w'.heap[q]?=w.heap[q]?:=f.block q (k.bK q hq) hne;have ep:=e p k.sp fun q=>k.tp q.symm
 have F:Sep.Fr S w w':=f.mono fun q hq=>hq▸k.st
 ⟨k.below.trans (F.below k.low k.below.size),⟨(World.cell?_of_block (a:=⟨p,0,none⟩) ep).trans k.box.x0,(World.cell?_of_block (a:=⟨p,1,none⟩) ep).trans k.box.x1,(World.cell?_of_block (a:=⟨p,2,none⟩) ep).trans k.box.x2,(World.cell?_of_block (a:=⟨p,3,none⟩) ep).trans k.box.x3⟩,
  (World.cell?_of_block (a:=⟨p,4,none⟩) ep).trans k.items,(World.cell?_of_block (a:=⟨p,5,none⟩) ep).trans k.targets,(World.cell?_of_block (a:=⟨p,6,none⟩) ep).trans k.numbers,(World.frozen?_of_block (a:=⟨p,4,none⟩) ep).trans k.free,
  Sep.bS k.row fun g hg=>e g (k.sr g hg) (k.rp g hg).2.1,fun i h1 h2=>(k.lists i h1 h2).fr F (.refl _ _),ht,k.sm.keep (e bn k.sn fun q=>k.tn q.symm),k.sp,k.st,k.sn,k.sr,k.tp,k.np,k.tn,k.rp,k.low,k.bK.le f.size⟩
theorem added{W}{p}{S}{h}{G}{ks}{X}{n}{a a'}{c c' bt bn}{us}{w w1 w2}{K}{u}
  (k:Parts W p S h G ks X n a c bt bn us w) (hu:pO S K u w)
  (oq:SM bn (ks.length+1) (lu ks++[dJ K]) w1) (hg1:w.grownBy w1 (some bn))
  (hown2:w2.ownsRow W.heap.size 169 1 (.slice a' (ks.length+1) c') (ks.length+1) (us++[u]))
  (hg2:(w1.alloc (.cells #[u] 169)).grownBy w2 (Value.slice a ks.length c).ownBlock)
  (hloc:(Value.slice a' (ks.length+1) c').ownBlock=(Value.slice a ks.length c).ownBlock\/(Value.slice a' (ks.length+1) c').ownBlock=some (w1.alloc (.cells #[u] 169)).heap.size):
  ∃T,im W p T h G (ks++[K]) X n (w2.setCell ⟨p,4,none⟩ (.slice a' (ks.length+1) c'))/\Sep.Fr S w (w2.setCell ⟨p,4,none⟩ (.slice a' (ks.length+1) c'))/\Sep.Ext T S w:=by
 have hp:p<w.heap.size:=k.bK p k.sp;have hsz1:w.heap.size<=w1.heap.size:=hg1.size;have xP:w1.heap.size+1<=w2.heap.size:=by have:=hg2.size;simpa using this
 have hrow:∀g,(Value.slice a ks.length c).ownBlock=some g->S g/\g<w.heap.size/\g≠p/\g≠bt/\g≠bn:=fun g hg=>⟨k.sr g hg,k.bK g (k.sr g hg),k.rp g hg⟩
 have hrow':∀g,(Value.slice a' (ks.length+1) c').ownBlock=some g->((Value.slice a ks.length c).ownBlock=some g\/w.heap.size<=g)/\g<w2.heap.size/\W.heap.size<=g:=fun g hg=>by
  refine⟨?_,(hown2.lt g hg).2,(hown2.lt g hg).1⟩;rcases hloc with e|e
  ·exact .inl (e.symm.trans hg)
  ·have e2:=e.symm.trans hg;injection e2 with e2
   simp at e2;exact .inr (by omega)
 have F2:Sep.Fr S w w2:=Sep.Fr.grown (w:=w1.alloc (.cells #[u] 169)) (Sep.Fr.alloc (Sep.Fr.grown (.refl _ _) hg1 fun q hq=>by injection hq with hq;subst hq;exact .inl k.sn) _) hg2 fun q hq=> .inl (hrow q hq).1
 have F3:Sep.Fr S w (w2.setCell ⟨p,4,none⟩ (.slice a' (ks.length+1) c')):=Sep.Fr.setCell F2 _ k.sp _
 have X3:Sep.Ext (fun q=>S q\/(Value.slice a' (ks.length+1) c').ownBlock=some q) S w:=by
  rintro q (hq|hq)
  ·exact .inl hq
  ·rcases(hrow' q hq).1 with e|e
   ·exact .inl (hrow q e).1
   ·exact .inr e
 have fh:∀q,q<w.heap.size->q≠bn->(Value.slice a ks.length c).ownBlock≠some q->w2.heap[q]?=w.heap[q]?:=fun q hq h1 h2=>by
  rw[hg2.block q (by simp;omega) (fun e=>h2 e.symm),Below.heap_alloc _ _ _ (by omega),hg1.block q hq (fun e=>h1 (by injection e))]
 have ep:w2.heap[p]?=w.heap[p]?:=fh p hp (fun e=>k.np e.symm) fun e=>(hrow p e).2.2.1 rfl
 have cell:∀j v,j≠4->w.cell? ⟨p,j,none⟩=some v->(w2.setCell ⟨p,4,none⟩ (.slice a' (ks.length+1) c')).cell? ⟨p,j,none⟩=some v:=fun j v hj hc=>by
  rw[World.cell?_setCell_other _ _ _ _ (fun e=>hj (congrArg Addr.off e).symm)];exact(World.cell?_of_block (a:=⟨p,j,none⟩) ep).trans hc
 have vp:bn<w1.heap.size:=oq.lt;have rZ:∀q,q≠p->(w2.setCell ⟨p,4,none⟩ (.slice a' (ks.length+1) c')).heap[q]?=w2.heap[q]?:=fun q hq=>Below.heap_setCell _ _ _ _ hq
 refine⟨_,⟨a',c',bt,bn,us++[u],?_⟩,F3,X3⟩;have hel:(ks++[K]).length=ks.length+1:=by simp
 refine⟨k.below.trans (F3.below k.low k.below.size),⟨cell 0 _ (by omega) k.box.x0,cell 1 _ (by omega) k.box.x1,cell 2 _ (by omega) k.box.x2,cell 3 _ (by omega) k.box.x3⟩,?_,cell 5 _ (by omega) k.targets,cell 6 _ (by omega) k.numbers,?_,?_,?_,?_,?_,.inl k.sp,.inl k.st,.inl k.sn,?_,k.tp,k.np,k.tn,?_,?_,?_⟩
 ·rw[hel];exact World.cell?_setCell_same _ _ _ ((World.cell?_of_block (a:=⟨p,4,none⟩) ep).trans k.items)
 ·rw[World.frozen?_setCell];exact(World.frozen?_of_block (a:=⟨p,4,none⟩) ep).trans k.free
 ·rw[hel];refine Sep.bS hown2 fun g hg=>rZ g fun e=>?_
  subst e;rcases(hrow' g hg).1 with q|q
  ·exact(hrow g q).2.2.1 rfl
  ·omega
 ·intro i h1 h2;have hul:=k.len
  have key:pO S (ks++[K])[i] (us++[u])[i] w:=by
   by_cases hi:i<ks.length
   ·rw[List.getElem_append_left hi,List.getElem_append_left (by omega)];exact k.lists i hi (by omega)
   ·rw[List.getElem_append_right (by omega),List.getElem_append_right (by omega)]
    simpa using hu
  exact key.fr F3 X3
 ·refine k.tm.keep ((rZ bt k.tp).trans (fh bt (k.bK _ k.st) k.tn fun e=>(hrow bt e).2.2.2.1 rfl))
 ·rw[hel];have:lu (ks++[K])=lu ks++[dJ K]:=by simp[lu]
  rw[this];refine oq.keep ((rZ bn k.np).trans ?_);rw[hg2.block bn (by simp;omega) (fun e=>(hrow bn e.symm).2.2.2.2 rfl),Below.heap_alloc _ _ _ vp]
 ·rw[hel];exact fun g hg=> .inr hg
 ·rw[hel];intro g hg;rcases(hrow' g hg).1 with q|q
  ·exact(hrow g q).2.2
  ·have h1:=k.bK _ k.st;have h2:=k.bK _ k.sn;exact⟨by omega,by omega,by omega⟩
 ·rintro q (hq|hq)
  ·exact k.low q hq
  ·exact(hrow' q hq).2.2
 ·rintro q (hq|hq)
  ·have:=k.bK q hq;rw[show(w2.setCell ⟨p,4,none⟩ (.slice a' (ks.length+1) c')).heap.size=w2.heap.size by simp[World.setCell]];omega
  ·rw[show(w2.setCell ⟨p,4,none⟩ (.slice a' (ks.length+1) c')).heap.size=w2.heap.size by simp[World.setCell]];exact(hrow' q hq).2.1
end Au
namespace Au
open Gr (ai Sh cell_later)
open Im
open It (d7 num)
def wS(ks:List (List au))(K:List au):List (List au):=if K∈ks then ks else ks++[K]
def gV(ks:List (List au))(K:List au):Nat:=(ks++[K]).idxOf K
theorem YG{W}{p}{S}{h}{G}{ks}{X}{n}{a}{c bt bn}{us}{w1 w2}(k:Parts W p S h G ks X n a c bt bn us w1)(hg:w1.grownBy w2 (some bn)):
  W.heap.size<=w2.heap.size/\∀(w3:World) (o:Obj),(w2.alloc o).grownBy w3 (Value.slice a ks.length c).ownBlock->w3.cell? ⟨p,4,none⟩=some (.slice a ks.length c)/\w3.frozen? ⟨p,4,none⟩=false:=by
 have h1:=k.below.size;have h2:=hg.size;have h3:=k.bK p k.sp;refine⟨by omega,fun w3 o hg3=>?_⟩
 have e:w3.heap[p]?=w1.heap[p]?:=by
  rw[hg3.block p (by simp;omega) (fun e=>(k.rp p e.symm).1 rfl),Below.heap_alloc _ _ _ (by omega),hg.block p h3 (fun e=>k.np (by injection e with e;exact e.symm))]
 exact⟨(World.cell?_of_block (a:=⟨p,4,none⟩) e).trans k.items,(World.frozen?_of_block (a:=⟨p,4,none⟩) e).trans k.free⟩
def zPZ(W:World)(r:Nat)(p:Nat)(S:Nat->Prop)(h:Sh)(G:ai)(ks:List (List au))(X:au->Option Int)(n:Nat)(w:World)(e:Ending)(w':World):Prop:=
 e=.returned (.int .i64 (r:Int))/\∃T,im W p T h G ks X n w'/\Sep.Fr S w w'/\Sep.Ext T S w/\∀v,w.cell? ⟨p,5,none⟩=some v->w'.cell? ⟨p,5,none⟩=some v
theorem wB{W:World}{p:Nat}{S:Nat->Prop}{h:Sh}{G:ai}{ks:List (List au)}{X:au->Option Int}{n:Nat}(w:World)(k:im W p S h G ks X n w)(K:List au)(a:Option Addr)(c:Nat)(hK:pO S K (.slice a K.length c) w)
  (hf:gu K) (hs:∀x∈ks,gu x) (hn:ks.Nodup) (hl:ks.length<=1000000) (hL:K.length<=1000000):
  Calls Tryz.prog 108 #[.pointer (some ⟨p,0,none⟩),.slice a K.length c] w (zPZ W (gV ks K) p S h G (wS ks K) X n w):=by
 obtain⟨a0,c0,bt,bn,us,k⟩:=k;have KE:=af (zTi K a c w (by obtain⟨_,_,e,_,h3,_⟩:=hK;simp only[Value.slice.injEq]at e;rw[e.1];exact h3) hf hL);have hsz:(dJ K).size<=maxLen:=by rw[zNg];unfold maxLen;omega
 by_cases hin:K∈ks
 ·have hi:=(OA hs hf).2 hin;have e1:wS ks K=ks:=if_pos hin
  have e2:gV ks K=num (lu ks) (dJ K):=by
   unfold gV;rw[List.idxOf_append,if_pos hin,zTk hs hf hn hin]
  rw[e1,e2];have k0:=af k;clear hK k hf hs hn hl hL hin e1 e2;go_enter Tryz.func108,Tryz.ntmps108
  go_wp2_with (first
   |(go_at_call 130;refine KE.out.mono ?_;rintro e w1 ⟨rfl,hb⟩;have k1:=af (k0.out.went hb);have HB:=af hb;have q1:=k1.out.items;have q2:=k1.out.numbers;clear hb)
   | (at_lookup;refine Tj _ rfl _ _ rfl xZ Tryz.underlying9 Tryz.underlying164 Tryz.underlying3 (IB _) bn ks.length (lu ks) rfl k1.out.sm (dJ K) rfl hsz ?_))
  go_ret;exact⟨rfl,S,⟨a0,c0,bt,bn,us,k1.out⟩,.of_below HB.out,.refl _ _,fun v hv=>cell_later HB.out hv⟩
 ·have hi:d7 (lu ks) (dJ K)=false:=by
   cases e:d7 (lu ks) (dJ K)with
   |false=>rfl
   |true=>exact absurd ((OA hs hf).1 e) hin
  have e1:wS ks K=ks++[K]:=if_neg hin
  have e2:gV ks K=ks.length:=by
   unfold gV;rw[List.idxOf_append,if_neg hin];simp
  rw[e1,e2];have hkl:(lu ks).length=ks.length:=by simp[lu]
  obtain⟨i0,hj,hz0,hz1,hz2⟩:=info_parts Wm;have k0:=af k;have U0:=af hK;clear hK k hf hs hn hin e1 e2;go_enter Tryz.func108,Tryz.ntmps108
  go_wp2_with (first
   |(go_at_call 130;refine KE.out.mono ?_;rintro e w1 ⟨rfl,hb⟩;have k1:=af (k0.out.went hb);have U1:=af (U0.out.went hb);have HB:=af hb;have q1:=k1.out.items;have q2:=k1.out.numbers;clear hb)
   |(at_lookup;refine Tj _ rfl _ _ rfl xZ Tryz.underlying9 Tryz.underlying164 Tryz.underlying3 (IB _) bn ks.length (lu ks) rfl k1.out.sm (dJ K) rfl hsz ?_)
   |(at_mapUpdate;refine zFx _ rfl _ _ _ rfl xZ Tryz.underlying9 Tryz.underlying164 Tryz.underlying3 bn ks.length (lu ks) rfl k1.out.sm (by unfold maxLen;omega) (dJ K) rfl hsz hi _ rfl (by rw[hkl]) (by omega) ?_;intro w2 hm2 hg2;have M2:=af hm2;have G2:=af hg2;have ep:=hg2.block p (k1.out.bK p k1.out.sp) (fun e=>k1.out.np (by injection e with e;exact e.symm));have q3:=(World.cell?_of_block (a:=⟨p,4,none⟩) ep).trans k1.out.items;have f3:=(World.frozen?_of_block (a:=⟨p,4,none⟩) ep).trans k1.out.free;have R3:=af (k1.out.row.kept hg2 (zUM k1.out));have hw2:=(YG k1.out hg2).1;have KP:=af (YG k1.out hg2).2;clear hm2 hg2 ep)
   | (at_builtin;refine wpList_append_own_at _ rfl _ _ 165 rfl W.heap.size 169 i0 (.slice none 0 0) 1 24 Tryz.underlying165 hj hz0 hz1 hz2 rfl (by decide) _ _ _ rfl (R3.out.alloc _) ⟨w2.heap.size,0,none⟩ 1 1 [.slice a K.length c] rfl rfl (cell_one_new _ _ _) (by simp[Value.oneCell']) (by unfold maxLen;omega) (by omega) (by simp;omega) ?_;intro v' w3 iW hg3 _ hloc;obtain⟨q5,f5⟩:=KP.out _ _ hg3;obtain⟨a',c',rfl⟩:=Sep.zK iW;have O3:=af iW;have G3:=af hg3;have HL:=af hloc;clear iW hg3 hloc))
  go_ret;obtain⟨T,t1,t2,t3⟩:=added k1.out U1.out M2.out G2.out O3.out G3.out HL.out;refine⟨rfl,T,t1,(Sep.Fr.of_below HB.out).trans t2 (.refl _ _),t3.at HB.out.size,fun v hv=>?_⟩;rw[World.cell?_setCell_other _ _ _ _ (fun q=>by have:=congrArg Addr.off q;simp at this)];have hp1:=k1.out.bK p k1.out.sp;have h2:=G2.out.size
  have e:w3.heap[p]?=w1.heap[p]?:=by
   rw[G3.out.block p (by simp;omega) (fun e=>(k1.out.rp p e.symm).1 rfl),Below.heap_alloc _ _ _ (by omega),G2.out.block p hp1 (fun e=>k1.out.np (by injection e with e;exact e.symm))]
  exact(World.cell?_of_block (a:=⟨p,5,none⟩) e).trans (cell_later HB.out hv)
end Au
namespace Au
open Gr (ai gv bI checkN boxed bg gI)
open Im
theorem Np(n k)(h:k<n)(z):(madeCells #[z] n)[k]?=some z:=by
 simp[madeCells,h,Nat.mod_one]
theorem zNx(n:Nat)(hn:n<=10000)(w):
  (Instr.makeSlice 165 (.int .i64 (n:Int)) (.int .i64 (n:Int))).run Tryz.prog w=.ok (.slice (some ⟨w.heap.size,0,none⟩) n n) (w.alloc (.cells (madeCells #[.slice none 0 0] n) 169)):=
 run_make_row' 165 169 (.slice none 0 0) 24 Tryz.underlying165 Wm rfl .i64 .i64 n (by omega) (by omega) w
theorem zTE(n m)(w w':World)(hm:w.heap.size<m)(hw:m<=w'.heap.size)(hb:w'.heap[w.heap.size]?=(w.alloc (.cells (madeCells #[.slice none 0 0] n) 169)).heap[w.heap.size]?):fY 181 w.heap.size m n (fun _=>[]) (fun _=> .slice none 0 0) w':=by
 have B:=Rw.Bk.new w (madeCells #[.slice none 0 0] n) 169 _ rfl;exact⟨fun s hs=>(World.cell?_of_block (a:=⟨w.heap.size,s,none⟩) hb).trans (B.cell (Np n s hs _)),fun j=>(World.frozen?_of_block (a:=⟨w.heap.size,j,none⟩) hb).trans (B.free j),fun s _=>bw.nil _ _ _,fun s r _ _ _ g e=>by simp[Value.ownBlock]at e,hm,hw⟩
def zPV(Y:List au)(w:World)(e:Ending)(w':World):Prop:=∃a c,e=.returned (.slice a Y.length c)/\bw 181 w.heap.size Y (.slice a Y.length c) w'/\Below w.heap.size w w'
theorem zLL(h)(G)(hv:checkN G=0)(L)(a)(c)(w)(k:bI h G w)(kl:bG a L w)(hw:∀x∈L,dY x)(hL:L.length<=1000000):
  Calls Tryz.prog 157 #[gv h G,.slice a L.length c] w (zPV (fH G L) w):=by
 refine(zMw h G L a c w k kl hw hL).mono ?_;rintro e w' ⟨Y,a',c',rfl,h1,h2,h3⟩;have:Y=fH G L:=(h1.iff (Q:=cM G L) fun x=>⟨fun q=>q.2,fun q=>⟨hv,q⟩⟩).uniq (sQ G L);subst this;exact⟨a',c',rfl,h2,h3⟩
def zPc(F:Nat->List au)(n:Nat)(w:World)(e:Ending)(w':World):Prop:=∃b c,e=.returned (.slice (some ⟨b,0,none⟩) n c)/\w.heap.size<=b/\b<w'.heap.size/\
 (∀s,s<n->∃a c',w'.cell? ⟨b,s,none⟩=some (.slice a (F s).length c')/\(F s).length<=c'/\bG a (F s) w'/\∀b' o,a=some ⟨b',o,none⟩->w.heap.size<=b')/\Below w.heap.size w w'
theorem zM7{G}{c:List au}{k}(hk)(hb:aZ G c[k]=true){s:Nat}(hs:aQ G c[k]=(s:Int))(r):
  upd (fun r:Nat=>jR G (c.take k) (r:Int)) s (jR G (c.take k) (s:Int)++[(c[k].1,c[k].2+1)]) r=jR G (c.take (k+1)) (r:Int):=by
 rw[List.take_succ_eq_append_getElem hk,UD]
 by_cases e:r=s
 ·subst e;rw[upd_same,if_pos ⟨hb,hs⟩]
 ·rw[bu e,if_neg,List.append_nil];rintro⟨_,q⟩;omega
theorem zP9{G}{c:List au}{k}(hk)(hb:aZ G c[k]=false)(r):jR G (c.take k) r=jR G (c.take (k+1)) r:=by
 rw[List.take_succ_eq_append_getElem hk,UD,if_neg,List.append_nil];rintro⟨q,_⟩;rw[hb]at q;cases q
structure uU (W w w2:World) (b n:Nat) (a:Option Addr) (G:ai) (C:List au) (k:Nat) (D:Nat->Value) (wr:World):Prop where
 dG:fY 181 b w2.heap.size n (fun s=>jR G (C.take k) (s:Int)) D wr
 fr:Sep.Fr (· =b) w2 wr
theorem uU.below{W w w2 wr}{b n k}{a}{G}{C}{D}(h:uU W w w2 b n a G C k D wr)(hb:w.heap.size<=b)(h2:Below w.heap.size w w2):Below w.heap.size w wr:=
 h2.trans (h.fr.below (fun i hi=>by omega) h2.size)
theorem uU.went{W w w2 wr wx}{b n k}{a}{G}{C}{D}(h:uU W w w2 b n a G C k D wr)(hb:Below wr.heap.size wr wx):uU W w w2 b n a G C k D wx:=
 ⟨h.dG.went hb,Rw.zU h.fr hb⟩
structure Ag (wb wc:World) (rb:Nat) (rr:List Int) (ra:Option Addr) (rc:Nat):Prop where
 below:Below wb.heap.size wb wc
 cell:wc.cell? ⟨rb,1,none⟩=some (.slice ra rr.length rc)
 at_:∀d (hd:d<rr.length),rr[d]≠0->∃b2 o2,ra=some ⟨b2,o2,none⟩/\wc.cell? ⟨b2,o2+d,none⟩=some (.int .i64 rr[d])
theorem Vt{ra}{rr}{w}(h:Sep.Reads ra (Gr.aN rr) w)(d)(hd):∃b2 o2,ra=some ⟨b2,o2,none⟩/\w.cell? ⟨b2,o2+d,none⟩=some (.int .i64 rr[d]):=by
 obtain⟨b2,o2,e,hc⟩:=h d (by simpa[Gr.aN]using hd);exact⟨b2,o2,e,by simpa[Gr.aN,Gr.iv]using hc⟩
theorem zSu{wb v1}{rl}{rr}{ra}{rc}(T)(h:Below wb.heap.size wb v1)(r:Sep.Reads ra (Gr.aN rr) v1):Ag wb (v1.alloc (.cells #[.int .i64 rl,.slice ra rr.length rc] T)) v1.heap.size rr ra rc:=
 ⟨Gr.step h (boxed _ _),bg rfl rfl,fun d hd _=>by
  obtain⟨b2,o2,e,hc⟩:=Vt r d hd
  exact⟨b2,o2,e,gI hc⟩⟩
theorem zSv{wb v1}{rl}{rr}{ra}{rc}(h:Below wb.heap.size wb v1)(r:Sep.Reads ra (Gr.aN rr) v1)(z0:v1.cell? ⟨wb.heap.size,0,none⟩=some (.int .i64 0))(z1:v1.cell? ⟨wb.heap.size,1,none⟩=some (.slice none 0 0)):
  Ag wb ((v1.setCell ⟨wb.heap.size,0,none⟩ (.int .i64 rl)).setCell ⟨wb.heap.size,1,none⟩ (.slice ra rr.length rc)) wb.heap.size rr ra rc:=
 ⟨(h.setCell (Nat.le_refl _) _).setCell (Nat.le_refl _) _,World.cell?_setCell_same _ _ _ (by rw[World.cell?_setCell_other _ _ _ _ (fun q=>by have:=congrArg Addr.off q;simp at this)];exact z1),fun d hd hne=>by
  obtain⟨b2,o2,e,hc⟩:=Vt r d hd;refine⟨b2,o2,e,?_⟩
  rw[World.cell?_setCell_other _ _ _ _ (fun q=>by
   rw[←q]at hc;rw[hc]at z1
   cases z1),World.cell?_setCell_other _ _ _ _ (fun q=>by
   rw[←q,z0]at hc;injection hc with hc
   injection hc with _ hc
   exact hne hc.symm)]
  exact hc⟩
