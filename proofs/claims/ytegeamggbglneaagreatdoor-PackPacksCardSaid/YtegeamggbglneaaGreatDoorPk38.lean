/- A part of the proof. -/
import Derived.ScopeJumps
import Derived.WalkMore
import Derived.Test.YtegeamggbglneaaGreatDoorPk32
import Derived.Test.YtegeamggbglneaaGreatDoorPk36
import Derived.Test.YtegeamggbglneaaGreatDoorPk37
set_option maxHeartbeats 4000000
set_option maxRecDepth 100000
set_option linter.unusedVariables false
namespace Go.Proofs.YtegeamggbglneaaGreatDoor
open Go.RowKit Go.Maps
namespace Lk
open Gr (Gram checkN)
open Im
open Au
open Bt (Upto)
theorem zQA{p:Nat->Prop}(h:∃n,p n):∃n,p n/\∀k,k<n->¬p k:=by
 obtain⟨n,hn⟩:=h
 induction n using Nat.strongRecOn with
 |_ n ih=>
  by_cases hk:∃k,k<n/\p k
  ·obtain⟨k,h1,h2⟩:=hk;exact ih k h1 h2
  ·exact⟨n,hn,fun k h1 h2=>hk ⟨k,h1,h2⟩⟩
open Classical in
theorem zJW{P}{a}{w}{Q}{c body}{γ:Type}(l)(J:γ->Act->World->Prop)(μ:γ->Nat)(hf:findLabel c l=some (Code.skip.seq body))
  (pass:∀g a w,J g a w->body.wp P (Exit.jump l (fun a' w'=>∃g',J g' a' w'/\μ g'<μ g) Q) a w)
  (first:(∀g a w,J g a w->body.wp P (Exit.jump l (fun a' w'=>∃g',J g' a' w') Q) a w)->c.wp P (Exit.jump l (fun a' w'=>∃g',J g' a' w') Q) a w):(Code.scope c).wp P Q a w:=by
 have hex:∀a w,(∃g,J g a w)->∃n,(∃g,J g a w/\μ g=n)/\∀k,k<n->¬∃g,J g a w/\μ g=k:=fun a w ⟨g,hg⟩=>zQA ⟨μ g,g,hg,rfl⟩
 let m:Act->World->Nat:=fun a w=>if h:∃g,J g a w then(hex a w h).choose else 0
 have hm:∀a w (h:∃g,J g a w),(∃g,J g a w/\μ g=m a w)/\∀k,k<m a w->¬∃g,J g a w/\μ g=k:=fun a w h=>by
  have:=(hex a w h).choose_spec;show(∃g,J g a w/\μ g=(if h:∃g,J g a w then(hex a w h).choose else 0))/\∀k,k<(if h:∃g,J g a w then(hex a w h).choose else 0)->_;rw[dif_pos h];exact this
 refine wp_scope_jumps l (fun a w=>∃g,J g a w) m hf (first fun g a w h=>?_) fun a w h=>?_
 ·refine wp_mono (pass g a w h) fun e a' w' hq=>?_
  cases e with
  |goto l'=>exact⟨hq.1,hq.2.imp fun _ k=>k.1⟩
  |_=>exact hq
 ·obtain⟨g,hg,hn⟩:=(hm a w h).1;refine wp_seq (wp_skip ?_);refine wp_mono (pass g a w hg) fun e a' w' hq=>?_
  cases e with
  |goto l'=>
   obtain⟨h1,g',h2,h3⟩:=hq;refine⟨h1,⟨g',h2⟩,?_⟩;have:=hm a' w' ⟨g',h2⟩;rcases Nat.lt_or_ge (m a' w') (m a w)with r|r
   ·exact r
   ·exact absurd ⟨g',h2,rfl⟩ (this.2 (μ g') (by omega))
  |_=>exact hq
def Kps(N M:Nt):Prop:=M.pls=N.pls/\M.Ys=N.Ys/\M.wv=N.wv/\M.D=N.D/\M.E=N.E
theorem Kps.trans{N M L}(h:Kps N M)(k:Kps M L):Kps N L:=⟨k.1.trans h.1,k.2.1.trans h.2.1,k.2.2.1.trans h.2.2.1,k.2.2.2.1.trans h.2.2.2.1,k.2.2.2.2.trans h.2.2.2.2⟩
theorem Kps.give(m)(N)(k)(F):Kps N (N.give m k F):=⟨rfl,rfl,rfl,rfl,rfl⟩
theorem Kps.pop(N)(k):Kps N (N.pop k):=⟨rfl,rfl,rfl,rfl,rfl⟩
theorem Kps.go(m)(N)(k)(y):Kps N (N.go m k y):=by
 obtain⟨h1,h2,h3,h4,h5⟩:=zUg m N k y;exact⟨h1,h2,h5,h3,h4⟩
theorem Kps.lk{G}{q}{N M}(h:Kps N M)(k:Lk1 G q N):Lk1 G q M:=by
 obtain⟨h1,h2,_⟩:=h;refine⟨by rw[h1];exact k.nd,by rw[h1];exact k.can,?_⟩;rw[h1,h2];exact k.sound
theorem Kps.lkd{G}{q}{N M}(h:Kps N M){i}{x}(k:Lkd G q N i x):Lkd G q M i x:=by
 obtain⟨h1,h2,_⟩:=h;unfold Lkd;rw[h1,h2];exact k
theorem LkI.sp3{G}{q}{N}{cnt m}(h:LkI G q N cnt)(hm:m<=4096):Sp3 G q m N N.Ys:=by
 refine⟨fun k hk=>⟨hm,fun t _=>(h.frs k hk).1 t⟩,fun k i c hk t ht=>?_,by rw[h.qs];exact List.nodup_nil,fun k=>?_,fun k hk hw=>?_,fun k hk=> .inr (.inl (h.frs k hk).1)⟩
 ·rw[(h.frs k (zAk hk)).1 t]at ht;cases ht
 ·rw[h.qs];constructor
  ·intro e;cases e
  ·rintro⟨hk,hw⟩;rw[(h.frs k hk).2]at hw;cases hw
 ·rw[(h.frs k hk).2]at hw;cases hw
theorem zOn{G}(hT:G.terms.length<=1000)(k d):Upto (zOm G k d) (G.terms.length+1):=⟨by omega,fun u hu=>by
 unfold zOm;have:decide (u<G.terms.length+1)=false:=decide_eq_false (by omega)
 rw[this,Bool.false_and]⟩
theorem YOk.upto{K}{G}{y}(h:YOk K G y)(hT:G.terms.length<=1000):Upto y.f (G.terms.length+1):=by
 rcases h with⟨_,e⟩|⟨k,d,_,_,_,e⟩
 ·rw[e];exact⟨by omega,fun _ _=>rfl⟩
 ·rw[e];exact zOn hT k d
theorem YOk.ptr{K}{G}{y}(h:YOk K G y):∃pa,y.v=.pointer pa:=by
 rcases h with⟨e,_⟩|⟨k,d,_,_,e,_⟩<;>exact⟨_,e⟩
section
variable {W:World} {K:Fk} {G:Gram} {q:Whole} {N:Nt} {lab:Nat->Lb} {cv qv:Value} {w:World}
theorem NP.E_ge(h:NP W K G q N lab cv qv w){k}(hk:k<N.pls.length):W.heap.size<=N.E k:=by
 have e:=h.lE k hk;rcases h.low (N.E k) (by rw[e];intro e;cases e)with r|r|r
 ·rw[r,h.lp]at e;cases e
 ·rw[r,h.lm]at e;cases e
 ·exact r
theorem NP.given(h:NP W K G q N lab cv qv w)(FX:Fix W K G q){y}(hy:YOk K G y)(hto:y.to<N.pls.length):Gvn N y.to y.v y.f w:=by
 rcases hy with⟨e1,e2⟩|⟨k,d,hk,hd,e1,e2⟩
 ·rw[e1,e2];exact .inl ⟨0,.nil _⟩
 ·rw[e1,e2];obtain⟨a,c,_,f⟩:=(FX.at_ w h.fr).tails k hk;obtain⟨_,_,_,_,hs⟩:=f d hd;obtain⟨a',c',_,f'⟩:=(FX.at_ W (.refl _ _)).tails k hk;obtain⟨_,_,_,_,hs'⟩:=f' d hd;have h1:=hs'.inp;have h2:=hs'.ind;have h3:=h.E_ge hto;exact .inl ⟨_,.at_ hs (by omega) (by omega)⟩
theorem NP.given2(h:NP W K G q N lab cv qv w){k tt}(hk:k<N.pls.length)(hto:tt<N.pls.length):Gvn N tt (.pointer (some ⟨N.D k,0,none⟩)) (N.S k) w:=by
 by_cases e:k=tt
 ·subst e;exact .inr ⟨rfl,rfl⟩
 ·refine .inl ⟨_,.at_ (h.sets k hk) (fun e2=>?_) (fun e2=>?_)⟩
  ·have:=h.lP k hk;rw[e2,h.lE tt hto]at this;cases this
  ·have:=h.lE k hk;rw[e2,h.lE tt hto]at this;injection this with this
   exact e this.symm
end
theorem zRU{α}(f)(s)(x y:α):upd (upd f s x) s y=upd f s y:=by
 funext r
 by_cases e:r=s
 ·subst e;rw[upd_same,upd_same]
 ·rw[zAB e,zAB e,zAB e]
theorem zD3{α}(f:Nat->α)(s):upd f s (f s)=f:=by
 funext r
 by_cases e:r=s
 ·subst e;rw[upd_same]
 ·rw[zAB e]
theorem zHW.lt{G}{q}{a}{i}{x}{y}(h:zHW G q a i x y):y.to<a.length:=by
 rcases h with⟨_,_,h,_⟩|⟨_,h,_⟩<;>exact zAk h
theorem zRa{G}{q}(hv:checkN G=0){M L}{m k}(lk:Lk1 G q M)(hK:Kps M L)(hk:k<M.pls.length){j}(hj)(sp:Sp3 G q m L (upd M.Ys k ((M.Ys k).take j)))(hne:∃t,L.S k t=true)(hf:Upto ((M.Ys k)[j]).f m):
  (M.Ys k)[j].to<L.pls.length/\Sp3 G q m (L.give m (M.Ys k)[j].to (M.Ys k)[j].f) (upd M.Ys k ((M.Ys k).take j))/\Sp3 G q m (L.go m k (M.Ys k)[j]) (upd M.Ys k ((M.Ys k).take (j+1)))/\(∃t,(L.go m k (M.Ys k)[j]).S k t=true)/\(L.go m k (M.Ys k)[j]).num m<=L.num m:=by
 have lkL:=hK.lk lk;have hkL:k<L.pls.length:=by rw[hK.1];exact hk
 have hmem:(M.Ys k)[j]∈L.Ys k:=by rw[hK.2.1];exact List.getElem_mem hj
 obtain⟨⟨jj,d⟩,hp⟩:∃p,L.pls[k]?=some p:=⟨_,List.getElem?_eq_getElem hkL⟩;obtain⟨x,_,_,_,hw⟩:=lkL.sound k jj d hp _ hmem;have hto:=hw.lt;obtain⟨t0,ht0⟩:=hne;have hla:=sp.snd k jj d hp t0 ht0;have key:∀i c,L.pls[(M.Ys k)[j].to]?=some (i,c)->_:=fun i c hc=>zVE hv lkL hp hmem hla hc
 obtain⟨⟨i,c⟩,hq⟩:∃p,L.pls[(M.Ys k)[j].to]?=some p:=⟨_,List.getElem?_eq_getElem hto⟩;have s1:=sp.give hq (key i c hq).1
 have s2:=sp.go hkL ⟨t0,ht0⟩ hto hf (fun i c hc=>(key i c hc).1) (fun he i c j' d' hc hd=>by
  rw[hp]at hd;injection hd with hd
  injection hd with e1 e2
  subst e1 e2
  exact(key i c hc).2 he)
 refine⟨hto,s1,?_,⟨t0,zVf _ _ _ _ ht0⟩,zUu sp hto s1.qlen⟩;rw[upd_same,zRU]at s2;rw[List.take_succ_eq_append_getElem hj];exact s2
structure Ps (W:World) (K:Fk) (G:Gram) (q:Whole) (S:Nat->Prop) (w0:World) (N:Nt) (k0:Nat) (M:Nt) (X:Nat->List Way) (T:Nat->Prop) (w:World):Prop where
 at_:NAt W K G q M T w
 fr:Sep.Fr S w0 w
 ext:Sep.Ext T S w0
 kp:Kps N M
 sp:Sp3 G q (G.terms.length+1) M X
 zero:M.S k0 0=true
section
variable {W:World} {K:Fk} {G:Gram} {q:Whole} {S:Nat->Prop} {w0:World} {N:Nt} {k0:Nat} {M L:Nt} {X Y:Nat->List Way} {T U:Nat->Prop} {w w':World}
theorem Ps.went(h:Ps W K G q S w0 N k0 M X T w)(hb:Below w.heap.size w w'):Ps W K G q S w0 N k0 M X T w':=
 ⟨h.at_.went hb,h.fr.trans (.of_below hb) h.ext,h.ext,h.kp,h.sp,h.zero⟩
theorem Ps.turn(h:Ps W K G q S w0 N k0 M X T w)(hL:NAt W K G q L U w')(f:Sep.Fr T w w')(x:Sep.Ext U T w)(kp:Kps M L)(sp:Sp3 G q (G.terms.length+1) L Y)(z:L.S k0 0=true):Ps W K G q S w0 N k0 L Y U w':=
 ⟨hL,h.fr.trans f h.ext,h.ext.trans x h.fr.size,h.kp.trans kp,sp,z⟩
end
end Lk
namespace Lk
open Gr (Gram ivs cell_later boxed step)
open Im
open Au
open Fi (zAg allC canB fstB folB zNb VS TOk Iab Ix)
open Bt (SetAt)
open Rw (zAN)
theorem zNI:(Tryz.prog.info? 212).map (fun i=>(i.zero,i.size,i.bytes))=some (some (.agg #[.pointer none,.bool false]),2,16):=by kernel_rfl
noncomputable def tlF(G:Gram)(L:List Int)(d:Nat):Nat->Bool:=fun u=>decide (u<G.terms.length+1)&&zAg (canB G) (fstB G) (L.drop (d+1)) (u:Int)
noncomputable def tlE(G:Gram)(L:List Int)(d:Nat):Bool:=allC (canB G) (L.drop (d+1))
theorem zU9(G)(L)(d):inL (G.terms.length+1) (Fi.lst (zAg (canB G) (fstB G) (L.drop (d+1))) (G.terms.length+1))=tlF G L d:=by
 funext u
 unfold inL tlF;rw[Bool.eq_iff_iff,decide_eq_true_iff,Bool.and_eq_true,decide_eq_true_iff,Fi.zEG];constructor
 ·rintro⟨h1,_,_,h2⟩;exact⟨h1,h2⟩
 ·rintro⟨h1,h2⟩;exact⟨h1,by omega,by omega,h2⟩
def tcs(p:Nat×Bool):List Value:=[.pointer (some ⟨p.1,0,none⟩),.bool p.2]
structure TlV (G:Gram) (L:List Int) (m:Nat) (tP tD:Nat->Nat) (j:Nat) (v:Value) (w:World):Prop where
 row:w.ownsRow m 212 2 v j ((List.range j).flatMap fun d=>tcs (tP d,tlE G L d))
 sets:∀d,d<j->SetAt (tP d) (tD d) (G.terms.length+1) (tlF G L d) w
 low:∀d,d<j->m<=tP d/\m<=tD d
 off:∀d,d<j->v.ownBlock≠some (tP d)/\v.ownBlock≠some (tD d)
theorem TlV.nil(G)(L)(m)(tP tD)(w):TlV G L m tP tD 0 (.slice none 0 0) w:=
 ⟨World.ownsRow_nil _ _ _ _,fun d hd=>absurd hd (Nat.not_lt_zero d),fun d hd=>absurd hd (Nat.not_lt_zero d),fun d hd=>absurd hd (Nat.not_lt_zero d)⟩
theorem zEC{α:Type}{f g:α->List Value}:∀{l:List α},(∀x∈l,f x=g x)->l.flatMap f=l.flatMap g
 |[],_=>rfl
 |a::l,h=>by rw[List.flatMap_cons,List.flatMap_cons,h a (List.mem_cons_self ..),zEC fun x hx=>h x (List.mem_cons_of_mem _ hx)]
theorem TlV.snoc{G}{L}{m j}{tP tD}{v v'}{w w1 w2}(h:TlV G L m tP tD j v w){P D}(hP:w.heap.size<=P)(hD:w.heap.size<=D)(hs:SetAt P D (G.terms.length+1) (tlF G L j) w1)(hb:Below w.heap.size w w1)(hm:m<=w.heap.size)
  (hown:w2.ownsRow m 212 2 v' (j+1) (((List.range j).flatMap fun d=>tcs (tP d,tlE G L d))++tcs (P,tlE G L j))) (hg:w1.grownBy w2 v.ownBlock) (hv:v'.ownBlock=v.ownBlock\/v'.ownBlock=some w1.heap.size):
  TlV G L m (upd tP j P) (upd tD j D) (j+1) v' w2:=by
 have hs1:=hb.size;have old:∀b,b<w1.heap.size->v.ownBlock≠some b->w2.heap[b]?=w1.heap[b]?:=fun b hb2 e=>hg.block b hb2 fun e2=>e e2.symm
 have off':∀b,b<w1.heap.size->v.ownBlock≠some b->v'.ownBlock≠some b:=fun b hb2 e e2=>by
  rcases hv with r|r
  ·exact e (r.symm.trans e2)
  ·have:=r.symm.trans e2;injection this with this
   omega
 have newv:∀b,w.heap.size<=b->v.ownBlock≠some b:=fun b hb2 e=>by
  have:=(h.row.lt b e).2;omega
 refine⟨?_,fun d hd=>?_,fun d hd=>?_,fun d hd=>?_⟩
 ·have e:((List.range (j+1)).flatMap fun d=>tcs (upd tP j P d,tlE G L d))=((List.range j).flatMap fun d=>tcs (tP d,tlE G L d))++tcs (P,tlE G L j):=by
   rw[List.range_succ,List.flatMap_append]
   congr 1
   ·refine zEC fun d hd=>?_
    have:=List.mem_range.1 hd;rw[zAB (by omega)]
   ·show tcs (upd tP j P j,tlE G L j)++[]= _;rw[upd_same,List.append_nil]
  rw[e];exact hown
 ·by_cases e:d=j
  ·subst e;rw[upd_same,upd_same];exact hs.keep hg.size (old P hs.inp (newv P hP)) (old D hs.ind (newv D hD))
  ·have hd':d<j:=by omega
   rw[zAB e,zAB e];have k:=(h.sets d hd').below hb (h.sets d hd').inp (h.sets d hd').ind;exact k.keep hg.size (old _ k.inp (h.off d hd').1) (old _ k.ind (h.off d hd').2)
 ·by_cases e:d=j
  ·subst e;rw[upd_same,upd_same];omega
  ·rw[zAB e,zAB e];exact h.low d (by omega)
 ·by_cases e:d=j
  ·subst e;rw[upd_same,upd_same];exact⟨off' P hs.inp (newv P hP),off' D hs.ind (newv D hD)⟩
  ·have hd':d<j:=by omega
   rw[zAB e,zAB e];have k:=h.sets d hd';exact⟨off' _ (by have:=k.inp;omega) (h.off d hd').1,off' _ (by have:=k.ind;omega) (h.off d hd').2⟩
theorem zRE{a}{X}{w}(h:Sep.Reads a (ivs X) w){k c}(hk:k<=X.length)(hc:X.length<=c):
  ∃a1 c1,(∀W,(Instr.slice 29 (.slice a X.length c) (some (.int .i64 (k:Int))) none none).run Tryz.prog W=.ok (.slice a1 (X.drop k).length c1) W)/\Sep.Reads a1 (ivs (X.drop k)) w/\(X.drop k).length<=c1:=by
 refine⟨if c=k then a else a.map (·.add (k*1)),c-k,fun W=>?_,fun j hj=>?_,by rw[List.length_drop];omega⟩
 ·rw[run_slice_l W 29 a X.length c zVd .i64 (k:Int) (by omega) (by omega),zV0];simp[Result.andThen_ok,sliced]
 ·rw[zNK,List.length_drop]at hj;have hck:¬c=k:=by omega
  obtain⟨b,o,e,hx⟩:=h (k+j) (by rw[zNK];omega);refine⟨b,o+k,?_,?_⟩
  ·rw[if_neg hck,e];simp[Addr.add]
  ·rw[show o+k+j=o+(k+j)by omega,hx];simp[zP1]
def zMI(G:Gram)(L:List Int)(w:World)(e:Ending)(w':World):Prop:=∃tP tD a c,e=.returned (.slice a L.length c)/\TlV G L w.heap.size tP tD L.length (.slice a L.length c) w'/\Below w.heap.size w w'
theorem zRM(T)(base P q)(b)(w:World)(hq:q=w.heap.size)(hb:base<=q):(w.alloc (.cells #[.pointer (some ⟨P,0,none⟩),.bool b] T)).ownsRow base T 2 (.slice (some ⟨q,0,none⟩) 1 1) 1 (tcs (P,b)):=by
 subst hq;exact World.ownsRow_lit w #[.pointer (some ⟨P,0,none⟩),.bool b] 1 hb (by decide) (by simp)
theorem zJb{G:Gram}{P D:Ix->Nat}{vS:Value}{O:Nat->Bool}{p:Nat}(w:World)(hS:VS false (Iab G.terms.length (Gr.top G+1) (Gr.top G+1)) P D vS G.terms.length (Gr.top G+1) (canB G) (fstB G) (folB G) O w)(hT:TOk G.terms.length (Gr.top G+1) (canB G) (fstB G) (folB G))(htab:Bt.Tab w)(h0:0<w.heap.size)(hTs:G.terms.length<=1000)
  (hp:w.cell? ⟨p,1,none⟩=some (.int .i64 (G.terms.length:Int))) (L:List Int) (a:Option Addr) (c:Nat) (hR:Sep.Reads a (ivs L) w) (hl:L.length<=1000) (hc:L.length<=c) (hL:∀x∈L,x<=9223372036854775807):
  Calls Tryz.prog 136 #[.pointer (some ⟨p,0,none⟩),.slice a L.length c,vS] w (zMI G L w):=by
 have LI:=zV7 (fun w1 (b:Below w.heap.size w w1) (X:List Int) a1 c1 hr hx=>Fi.zQB w1 (hS.went b) (fun _=>hT) (htab.below b h0) (by omega) X a1 c1 hr hx);have SE:=zV7 (fun w1 (b:Below w.heap.size w w1) (X:List Int) a1 c1 hr hx hb=>zJX G.terms.length p X a1 c1 w1 hTs (cell_later b hp) hr hx hb);have RD:=zV7 (fun w1 (b:Below w.heap.size w w1)=>Sep.Reads.below hR b (Nat.le_refl _));have FI:=zV7 hL;obtain⟨i0,hj,hz0,hz1,hz2'⟩:=info_parts zNI;clear hS hT htab hp hR hL;go_enter Tryz.func136,Tryz.ntmps136;go_wp2;go_loopw [7,13] (fun v t wr=>∃(j:Nat) (tP tD:Nat->Nat) (av:Option Addr) (cv:Nat),t=.int .i64 j/\j<=L.length/\v=.slice av j cv/\TlV G L w.heap.size tP tD j v wr/\Below w.heap.size w wr) (fun _ t _=>L.length-(intOf t).toNat)
 case atStart=>exact⟨0,fun _=>0,fun _=>0,none,0,rfl,Nat.zero_le _,rfl,TlV.nil _ _ _ _ _ _,.refl _ _⟩
 case round=>
  obtain⟨j,tP,tD,av,cv,rfl,hj1,rfl,hV,hB⟩:=hrel;have V:=zV7 hV;have B:=zV7 hB;clear hV hB
  by_cases hlt:j<L.length
  ·obtain⟨a1,c1,e1,t1,t2⟩:=zRE (RD.out wr B.out) (k:=j+1) (by omega) hc;have hwr:IntKind.i64.wrap ((j:Int)+1)=(j:Int)+1:=IntWalk.i64_in _ (by omega);rw[show((j+1:Nat):Int)=(j:Int)+1 by omega]at e1;have hdl:(L.drop (j+1)).length<=1000:=by rw[List.length_drop];omega
   have hcc:=Fi.zNb (zAg (canB G) (fstB G) (L.drop (j+1))) (G.terms.length+1)
   have hx1:=zV7 (show∀t∈Fi.lst (zAg (canB G) (fstB G) (L.drop (j+1))) (G.terms.length+1),t<=9223372036854775807 from fun t ht=>by
    have:=(Fi.zEG.1 ht).2.1
    omega)
   have TI:=zV7 (zU9 G L j);have hLX:=zV7 (LI.out wr B.out (L.drop (j+1)) a1 c1 t1 ⟨fun x hx=>FI.out x (List.mem_of_mem_drop hx),by omega,t2⟩);have hEE:=zV7 (show(!false&&allC (canB G) (L.drop (j+1)))=tlE G L j from rfl);rw[hEE.out]at hLX;generalize (L.drop (j+1)).length=dl at*;generalize hUU:Fi.lst (zAg (canB G) (fstB G) (L.drop (j+1))) (G.terms.length+1)=UU at*;have SN:=zV7 (fun(P D:Nat) (w1 w2:World) (v':Value) h1 h2 h3 h4 h5 h6 h7=>V.out.snoc (P:=P) (D:=D) (w1:=w1) (w2:=w2) (v':=v') h1 h2 h3 h4 B.out.size h5 h6 h7);have VR:=zV7 V.out.row;have hbm:=B.out.size;clear t1 t2 V;generalize hte:tlE G L j=te at*;generalize hro:((List.range j).flatMap fun d=>tcs (tP d,tlE G L d))=ro at*
   go_wp2_with (first
    |(go_at_call 163;(with_reducible refine(hLX.out).mono ?_);rintro e w2 ⟨a2,c2,rfl,r2,_,b2⟩;have B2:=zV7 (Gr.step B.out b2);have BB2:=zV7 b2;have S2:=zV7 (SE.out w2 B2.out UU a2 c2 r2 (by omega) hx1.out);clear r2 b2)
    |(go_at_call 140;(with_reducible refine(S2.out).mono ?_);rintro e w3 ⟨P3,D3,rfl,hP3,hD3,hs3,b3⟩;have B3:=zV7 (Gr.step BB2.out b3);have hz2:=BB2.out.size;have hz3:=b3.size;have TS:=zV7 hs3;have VX:=zV7 (Sep.zAE VR.out fun g hg=>(Gr.step B3.out (boxed w3 (.cells #[.pointer (some ⟨P3,0,none⟩),.bool te] 212))).block g (VR.out.lt g hg).2);have ON:=zV7 (zRM 212 w.heap.size P3 w3.heap.size te w3 rfl (by omega));have hsx:(w3.alloc (.cells #[.pointer (some ⟨P3,0,none⟩),.bool te] 212)).heap.size=w3.heap.size+1:=(by simp);clear hs3 b3)
    | (at_builtin;refine zAN _ rfl _ _ 206 rfl w.heap.size 212 i0 (.agg #[.pointer none,.bool false]) 2 16 Tryz.underlying206 hj hz0 hz1 hz2' rfl (by decide) (.slice av j cv) j ro rfl VX.out w.heap.size _ 1 (tcs (P3,te)) rfl ON.out (by simp[tcs,Value.oneCell']) (by unfold maxLen;omega) (by omega) (by omega) ?_;intro v' w' hown hg hloc;have V4:=zV7 (SN.out P3 D3 _ w' v' (by omega) (by omega) (by have:=(TS.out.below (boxed w3 (.cells #[.pointer (some ⟨P3,0,none⟩),.bool te] 212)) TS.out.inp TS.out.ind);rw[TI.out]at this;exact this) (Gr.step B3.out (boxed _ _)) hown hg hloc);have W4:=zV7 (zA5 (m:=w.heap.size) hg (by omega) fun k hk=>(VR.out.lt k hk).1);obtain⟨a7,c7,rfl⟩:=Rw.zAG hown;clear hown hg hloc))
   go_roundw
   case rel=>exact⟨j+1,_,_,a7,c7,by go_num,by omega,rfl,V4.out,(Gr.step B.out (Gr.step B3.out (boxed _ _))).trans W4.out⟩
   case measure=>simp[intOf];omega
  ·have hE:j=L.length:=by omega
   subst hE;go_wp2;go_ret;exact⟨tP,tD,av,cv,rfl,V.out,B.out⟩
end Lk
namespace Lk
open Gr (Gram ivs zAF top)
open Im
open Au
open Rw (Bk)
inductive Lr:Type
 |no:Lr
 |box:Lr
 |bb:Lr
 |rul:Lr
 |lft:Nat->Lr
 |tls:Lr
 |fix:Lr
structure Rd where
 bB:Nat
 cB:Nat
 rv:Value
 tv:Value
 LV:Nat->Value
 aR:Nat->Option Addr
 cR:Nat->Nat
 TV:Nat->Value
 tP:Nat->Nat->Nat
 tD:Nat->Nat->Nat
def rb(aS:Option Addr)(n cS:Nat)(G:Gram)(mb:Nat)(D:Rd):Array Value:=#[.slice aS n cS,.int .i64 (G.terms.length:Int),D.rv,.slice (some ⟨D.bB,0,none⟩) (top G+1) D.cB,D.tv,.slice none 0 0,.map (some mb),.slice none 0 0]
def rcs(G:Gram)(D:Rd)(k:Nat):List Value:=[.int .i64 (zAF G (k:Int)).1,.slice (D.aR k) (zAF G (k:Int)).2.length (D.cR k)]
theorem zGa(G)(D)(k):(rcs G D k).length=2:=rfl
structure RP (w0:World) (p mb:Nat) (G:Gram) (aS:Option Addr) (n cS:Nat) (jr jl jt:Nat) (D:Rd) (lab:Nat->Lr) (w:World):Prop where
 fr:Sep.Fr (fun b=>b=p\/b=D.bB) w0 w
 box:Bk p (rb aS n cS G mb D) 177 w
 rrow:w.ownsRow w0.heap.size 55 2 D.rv jr ((List.range jr).flatMap (rcs G D))
 rights:∀k,k<jr->Sep.Reads (D.aR k) (ivs (zAF G (k:Int)).2) w
 rlab:∀k,k<jr->(zAF G (k:Int)).2≠[]->∀b o,D.aR k=some ⟨b,o,none⟩->lab b=.fix
 lcell:∀s,s<=top G->w.cell? ⟨D.bB,s,none⟩=some (D.LV s)
 lfree:∀s,w.frozen? ⟨D.bB,s,none⟩=false
 lrow:∀s,s<=top G->w.ownsRow w0.heap.size 3 1 (D.LV s) (byTo G (s:Int) jl).length (nivs (byTo G (s:Int) jl))
 trow:w.ownsRow w0.heap.size 206 1 D.tv jt ((List.range jt).map D.TV)
 tails:∀k,k<jt->∃a c,D.TV k=.slice a (zAF G (k:Int)).2.length c/\TlV G (zAF G (k:Int)).2 w0.heap.size (D.tP k) (D.tD k) (zAF G (k:Int)).2.length (D.TV k) w
 tlab:∀k,k<jt->(∀g,(D.TV k).ownBlock=some g->lab g=.fix)/\∀d,d<(zAF G (k:Int)).2.length->lab (D.tP k d)=.fix/\lab (D.tD k d)=.fix
 lp:lab p=.box
 lb:lab D.bB=.bb
 lr:∀g,D.rv.ownBlock=some g->lab g=.rul
 ll:∀s,s<=top G->∀g,(D.LV s).ownBlock=some g->lab g=.lft s
 lt:∀g,D.tv.ownBlock=some g->lab g=.tls
 low:∀b,lab b≠.no->b=p\/b=D.bB\/w0.heap.size<=b
 inn:∀b,lab b≠.no->b<w.heap.size
section
variable {w0:World} {p mb:Nat} {G:Gram} {aS:Option Addr} {n cS:Nat} {jr jl jt:Nat} {D E:Rd} {lab lab':Nat->Lr} {w w':World} {ch:Lr->Prop}
abbrev Cr(ch:Lr->Prop)(lab:Nat->Lr)(w w':World):Prop:=Sep.Fr (fun b=>ch (lab b)) w w'
theorem RP.lab_lt(h:RP w0 p mb G aS n cS jr jl jt D lab w){b}{L}(e:lab b=L)(hn:L≠.no):b<w.heap.size:=h.inn b (e▸hn)
theorem RP.keep(h:RP w0 p mb G aS n cS jr jl jt D lab w)(f:Cr ch lab w w'){b}{L}(e:lab b=L)(hn:L≠.no)(hc:¬ch L):w'.heap[b]?=w.heap[b]?:=f.block b (h.lab_lt e hn) (by rw[e];exact hc)
theorem RP.fr'(h:RP w0 p mb G aS n cS jr jl jt D lab w)(f:Cr ch lab w w')(hc:¬ch .no):Sep.Fr (fun b=>b=p\/b=D.bB) w0 w':=
 ⟨f.os.trans h.fr.os,f.tape.trans h.fr.tape,f.output.trans h.fr.output,Nat.le_trans h.fr.size f.size,fun b hb hp=>by
  have hl:lab b=.no:=by
   cases e:lab b with
   |no=>rfl
   |_=>
    exfalso
    rcases h.low b (by rw[e];intro h;cases h)with r|r|r
    ·exact hp (.inl r)
    ·exact hp (.inr r)
    ·omega
  rw[f.block b (Nat.lt_of_lt_of_le hb h.fr.size) (by rw[hl];exact hc)]
  exact h.fr.block b hb hp⟩
theorem RP.box'(h:RP w0 p mb G aS n cS jr jl jt D lab w)(f:Cr ch lab w w')(hc:¬ch .box):Bk p (rb aS n cS G mb D) 177 w':=(h.keep f h.lp (by intro h;cases h) hc).trans h.box
theorem RP.rrow'(h:RP w0 p mb G aS n cS jr jl jt D lab w)(f:Cr ch lab w w')(hc:¬ch .rul):w'.ownsRow w0.heap.size 55 2 D.rv jr ((List.range jr).flatMap (rcs G D)):=Sep.zAE h.rrow fun g hg=>h.keep f (h.lr g hg) (by intro h;cases h) hc
theorem RP.rights'(h:RP w0 p mb G aS n cS jr jl jt D lab w)(f:Cr ch lab w w')(hc:¬ch .fix){k}(hk:k<jr):Sep.Reads (D.aR k) (ivs (zAF G (k:Int)).2) w':=by
 by_cases hn:(zAF G (k:Int)).2=[]
 ·rw[hn];exact .nil _ _
 ·exact(h.rights k hk).keep fun b o e=>h.keep f (h.rlab k hk hn b o e) (by intro h;cases h) hc
theorem RP.lcell'(h:RP w0 p mb G aS n cS jr jl jt D lab w)(f:Cr ch lab w w')(hc:¬ch .bb){s}(hs:s<=top G):w'.cell? ⟨D.bB,s,none⟩=some (D.LV s):=(World.cell?_of_block (a:=⟨D.bB,s,none⟩) (h.keep f h.lb (by intro h;cases h) hc)).trans (h.lcell s hs)
theorem RP.lfree'(h:RP w0 p mb G aS n cS jr jl jt D lab w)(f:Cr ch lab w w')(hc:¬ch .bb)(s):w'.frozen? ⟨D.bB,s,none⟩=false:=(World.frozen?_of_block (a:=⟨D.bB,s,none⟩) (h.keep f h.lb (by intro h;cases h) hc)).trans (h.lfree s)
theorem RP.lrow'(h:RP w0 p mb G aS n cS jr jl jt D lab w)(f:Cr ch lab w w'){s}(hs:s<=top G)(hc:¬ch (.lft s)):w'.ownsRow w0.heap.size 3 1 (D.LV s) (byTo G (s:Int) jl).length (nivs (byTo G (s:Int) jl)):=Sep.zAE (h.lrow s hs) fun g hg=>h.keep f (h.ll s hs g hg) (by intro h;cases h) hc
theorem RP.trow'(h:RP w0 p mb G aS n cS jr jl jt D lab w)(f:Cr ch lab w w')(hc:¬ch .tls):w'.ownsRow w0.heap.size 206 1 D.tv jt ((List.range jt).map D.TV):=Sep.zAE h.trow fun g hg=>h.keep f (h.lt g hg) (by intro h;cases h) hc
theorem RP.tails'(h:RP w0 p mb G aS n cS jr jl jt D lab w)(f:Cr ch lab w w')(hc:¬ch .fix){k}(hk:k<jt):∃a c,D.TV k=.slice a (zAF G (k:Int)).2.length c/\TlV G (zAF G (k:Int)).2 w0.heap.size (D.tP k) (D.tD k) (zAF G (k:Int)).2.length (D.TV k) w':=by
 obtain⟨a,c,e,t⟩:=h.tails k hk;obtain⟨l1,l2⟩:=h.tlab k hk;refine⟨a,c,e,Sep.zAE t.row fun g hg=>h.keep f (l1 g hg) (by intro h;cases h) hc,fun d hd=>?_,t.low,t.off⟩;exact(t.sets d hd).keep f.size (h.keep f (l2 d hd).1 (by intro h;cases h) hc) (h.keep f (l2 d hd).2 (by intro h;cases h) hc)
theorem RP.went(h:RP w0 p mb G aS n cS jr jl jt D lab w)(hb:Below w.heap.size w w'):RP w0 p mb G aS n cS jr jl jt D lab w':=by
 have f:Cr (fun _=>False) lab w w':=.of_below hb;exact⟨h.fr' f id,h.box' f id,h.rrow' f id,fun k hk=>h.rights' f id hk,h.rlab,fun s hs=>h.lcell' f id hs,fun s=>h.lfree' f id s,fun s hs=>h.lrow' f hs id,h.trow' f id,fun k hk=>h.tails' f id hk,h.tlab,h.lp,h.lb,h.lr,h.ll,h.lt,h.low,fun b hn=>Nat.lt_of_lt_of_le (h.inn b hn) hb.size⟩
theorem RP.old(h:RP w0 p mb G aS n cS jr jl jt D lab w)(ag:∀b,b<w.heap.size->lab' b=lab b){b}{L}(e:lab b=L)(hn:L≠.no):lab' b=L:=(ag b (h.lab_lt e hn)).trans e
def lr1(lab:Nat->Lr)(g:Nat)(L:Lr):Nat->Lr:=fun b=>if b=g then L else lab b
theorem zTB(lab)(g)(L):lr1 lab g L g=L:=if_pos rfl
theorem zJK{lab}{g b}{L}(h:b≠g):lr1 lab g L b=lab b:=if_neg h
theorem RP.row_lab(h:RP w0 p mb G aS n cS jr jl jt D lab w){L}{v v':Value}(hL:∀g,v.ownBlock=some g->lab g=L)(hL0:L≠.no){w1 w2:World}(hb:w.heap.size<=w1.heap.size)(hg:w1.heap.size<=w2.heap.size)(hv':∀g,v'.ownBlock=some g->g<w2.heap.size)(hv:v'.ownBlock=v.ownBlock\/v'.ownBlock=some w1.heap.size):
  ∃lab':Nat->Lr,(∀b,v'.ownBlock=some b->lab' b=L)/\(∀b,b<w.heap.size->lab' b=lab b)/\(∀b,b<w1.heap.size->lab' b=lab b)/\∀b,lab' b≠.no->b<w2.heap.size:=by
 rcases hv with r|r
 ·exact⟨lab,fun b e=>hL b (r.symm.trans e),fun _ _=>rfl,fun _ _=>rfl,fun b hb3=>Nat.lt_of_lt_of_le (h.inn b hb3) (Nat.le_trans hb hg)⟩
 ·refine⟨lr1 lab w1.heap.size L,fun b e=>?_,fun b hb3=>zJK (by omega),fun b hb3=>zJK (by omega),fun b hb3=>?_⟩
  ·have e2:=r.symm.trans e;injection e2 with e2
   rw[←e2];exact zTB _ _ _
  ·by_cases e:b=w1.heap.size
   ·exact e▸hv' _ r
   ·rw[zJK e]at hb3;exact Nat.lt_of_lt_of_le (h.inn b hb3) (Nat.le_trans hb hg)
theorem RP.turn(h:RP w0 p mb G aS n cS jr jl jt D lab w)(f:Cr ch lab w w')(hno:¬ch .no)(ag:∀b,b<w.heap.size->lab' b=lab b)(hin:∀b,lab' b≠.no->b<w'.heap.size):Sep.Fr (fun b=>b=p\/b=D.bB) w0 w'/\lab' p=.box/\lab' D.bB=.bb/\(∀b,lab' b≠.no->b=p\/b=D.bB\/w0.heap.size<=b):=by
 refine⟨h.fr' f hno,h.old ag h.lp (by intro e;cases e),h.old ag h.lb (by intro e;cases e),fun b hb=>?_⟩
 by_cases hl:b<w.heap.size
 ·rw[ag b hl]at hb;exact h.low b hb
 ·have:=h.fr.size;exact .inr (.inr (by omega))
theorem zU2(aS)(n cS)(G)(mb)(D)(u):(rb aS n cS G mb D).setIfInBounds 2 u=rb aS n cS G mb {D with rv:=u}:=by simp[rb]
theorem zU3(aS)(n cS)(G)(mb)(D)(u):(rb aS n cS G mb D).setIfInBounds 4 u=rb aS n cS G mb {D with tv:=u}:=by simp[rb]
theorem zOK(aS)(n cS)(G)(mb)(D):(rb aS n cS G mb D).size=8:=rfl
theorem RP.rule(h:RP w0 p mb G aS n cS jr jl jt D lab w){a}{c}(hr:Sep.Reads a (ivs (zAF G (jr:Int)).2) w)(ha:(zAF G (jr:Int)).2≠[]->∀b o,a=some ⟨b,o,none⟩->lab b=.fix){w1 w2}(hb:Below w.heap.size w w1){v'}
  (hown:w2.ownsRow w0.heap.size 55 2 v' (jr+1) (((List.range jr).flatMap (rcs G D))++[.int .i64 (zAF G (jr:Int)).1,.slice a (zAF G (jr:Int)).2.length c])) (hg:w1.grownBy w2 D.rv.ownBlock) (hv:v'.ownBlock=D.rv.ownBlock\/v'.ownBlock=some w1.heap.size):
  ∃lab',RP w0 p mb G aS n cS (jr+1) jl jt {D with rv:=v',aR:=upd D.aR jr a,cR:=upd D.cR jr c} lab' (w2.setCell ⟨p,2,none⟩ v')/\(∀b,b<w.heap.size->lab' b=lab b)/\Sep.Fr (fun b=>lab b≠.no) w (w2.setCell ⟨p,2,none⟩ v'):=by
 have f2:Cr (fun L=>L=Lr.rul) lab w w2:=Sep.Fr.grown (Sep.Fr.of_below hb) hg fun b e=> .inl (h.lr b e)
 have f:Cr (fun L=>L=Lr.rul\/L=Lr.box) lab w (w2.setCell ⟨p,2,none⟩ v'):=Sep.Fr.setCell (S:=fun b=>lab b=.rul\/lab b=.box) (f2.mono fun b e=> .inl e) _ (.inr h.lp) _;have hs:(w2.setCell ⟨p,2,none⟩ v').heap.size=w2.heap.size:=by simp[World.setCell]
 obtain⟨lab',hl',ag,_,hin⟩:=h.row_lab h.lr (by intro e;cases e) hb.size hg.size (fun g e=>(hown.lt g e).2) hv;obtain⟨t1,t2,t3,t4⟩:=h.turn f (by rintro(e|e)<;>cases e) ag (fun b hb3=>by rw[hs];exact hin b hb3)
 have hgn:v'.ownBlock≠some p:=fun e=>by
  have:=hl' p e;rw[t2]at this;cases this
 refine⟨lab',⟨t1,?_,?_,fun k hk=>?_,fun k hk hn b o e=>?_,fun s hsl=>h.lcell' f (by rintro(e|e)<;>cases e) hsl,fun s=>h.lfree' f (by rintro(e|e)<;>cases e) s,fun s hsl=>h.lrow' f hsl (by rintro(e|e)<;>cases e),h.trow' f (by rintro(e|e)<;>cases e),fun k hk=>h.tails' f (by rintro(e|e)<;>cases e) hk,fun k hk=>⟨fun g e=>h.old ag ((h.tlab k hk).1 g e) (by intro e;cases e),fun d hd=>⟨h.old ag ((h.tlab k hk).2 d hd).1 (by intro e;cases e),h.old ag ((h.tlab k hk).2 d hd).2 (by intro e;cases e)⟩⟩,t2,t3,hl',fun s hsl g e=>h.old ag (h.ll s hsl g e) (by intro e;cases e),fun g e=>h.old ag (h.lt g e) (by intro e;cases e),t4,fun b hb3=>by rw[hs];exact hin b hb3⟩,ag,f.mono fun b hb3 e=>by rw[e]at hb3;rcases hb3 with e2|e2<;>cases e2⟩
 ·have hx:=(h.box' f2 (by intro e;cases e)).set (j:=2) (by rw[zOK];omega) v';rw[zU2]at hx;exact hx
 ·have e:((List.range (jr+1)).flatMap (rcs G {D with rv:=v',aR:=upd D.aR jr a,cR:=upd D.cR jr c}))=((List.range jr).flatMap (rcs G D))++[.int .i64 (zAF G (jr:Int)).1,.slice a (zAF G (jr:Int)).2.length c]:=by
   rw[List.range_succ,List.flatMap_append]
   congr 1
   ·refine zEC fun k hk=>?_
    have:=List.mem_range.1 hk;show[_,Value.slice (upd D.aR jr a k) _ (upd D.cR jr c k)]= _;rw[zAB (by omega),zAB (by omega)]
    rfl
   ·show[_,Value.slice (upd D.aR jr a jr) _ (upd D.cR jr c jr)]++[]= _;rw[upd_same,upd_same]
    rfl
  rw[e];exact Sep.zAE hown fun b hb3=>Below.heap_setCell _ _ _ _ fun e2=>hgn (hb3.trans (congrArg some e2))
 ·show Sep.Reads (upd D.aR jr a k) _ _
  by_cases e:k=jr
  ·subst e;rw[upd_same]
   by_cases hn:(zAF G (k:Int)).2=[]
   ·rw[hn];exact .nil _ _
   ·exact hr.keep fun b o e2=>h.keep f (ha hn b o e2) (by intro e;cases e) (by rintro(e|e)<;>cases e)
  ·rw[zAB e];exact h.rights' f (by rintro(e|e)<;>cases e) (by omega)
 ·have e':upd D.aR jr a k=some ⟨b,o,none⟩:=e
  by_cases ek:k=jr
  ·subst ek;rw[upd_same]at e';exact h.old ag (ha hn b o e') (by intro e;cases e)
  ·rw[zAB ek]at e';exact h.old ag (h.rlab k (by omega) hn b o e') (by intro e;cases e)
theorem RP.left(h:RP w0 p mb G aS n cS jr jl jt D lab w){s}(hs0:s<=top G)(hsl:(zAF G (jl:Int)).1=(s:Int)){w1 w2}(hb:Below w.heap.size w w1){v'}
    (hown:w2.ownsRow w0.heap.size 3 1 v' ((byTo G (s:Int) jl).length+1) (nivs (byTo G (s:Int) jl)++[.int .i64 (jl:Int)])) (hg:w1.grownBy w2 (D.LV s).ownBlock) (hv:v'.ownBlock=(D.LV s).ownBlock\/v'.ownBlock=some w1.heap.size):
    ∃lab',RP w0 p mb G aS n cS jr (jl+1) jt {D with LV:=upd D.LV s v'} lab' (w2.setCell ⟨D.bB,s,none⟩ v')/\(∀b,b<w.heap.size->lab' b=lab b)/\Sep.Fr (fun b=>lab b≠.no) w (w2.setCell ⟨D.bB,s,none⟩ v'):=by
  have f2:Cr (fun L=>L=Lr.lft s) lab w w2:=Sep.Fr.grown (Sep.Fr.of_below hb) hg fun b e=> .inl (h.ll s hs0 b e)
  have f:Cr (fun L=>L=Lr.lft s\/L=Lr.bb) lab w (w2.setCell ⟨D.bB,s,none⟩ v'):=Sep.Fr.setCell (S:=fun b=>lab b=.lft s\/lab b=.bb) (f2.mono fun b e=> .inl e) _ (.inr h.lb) _;have hs:(w2.setCell ⟨D.bB,s,none⟩ v').heap.size=w2.heap.size:=by simp[World.setCell]
  obtain⟨lab',hl',ag,_,hin⟩:=h.row_lab (h.ll s hs0) (by intro e;cases e) hb.size hg.size (fun g e=>(hown.lt g e).2) hv;obtain⟨t1,t2,t3,t4⟩:=h.turn f (by rintro(e|e)<;>cases e) ag (fun b hb3=>by rw[hs];exact hin b hb3)
  have hgn:v'.ownBlock≠some D.bB:=fun e=>by
    have:=hl' D.bB e;rw[t3]at this;cases this
  refine⟨lab',⟨t1,h.box' f (by rintro(e|e)<;>cases e),h.rrow' f (by rintro(e|e)<;>cases e),fun k hk=>h.rights' f (by rintro(e|e)<;>cases e) hk,fun k hk hn b o e=>h.old ag (h.rlab k hk hn b o e) (by intro e;cases e),fun r hr=>?_,fun r=>?_,fun r hr=>?_,h.trow' f (by rintro(e|e)<;>cases e),fun k hk=>h.tails' f (by rintro(e|e)<;>cases e) hk,fun k hk=>⟨fun g e=>h.old ag ((h.tlab k hk).1 g e) (by intro e;cases e),fun d hd=>⟨h.old ag ((h.tlab k hk).2 d hd).1 (by intro e;cases e),h.old ag ((h.tlab k hk).2 d hd).2 (by intro e;cases e)⟩⟩,t2,t3,fun g e=>h.old ag (h.lr g e) (by intro e;cases e),fun r hr g e=>?_,fun g e=>h.old ag (h.lt g e) (by intro e;cases e),t4,fun b hb3=>by rw[hs];exact hin b hb3⟩,ag,f.mono fun b hb3 e=>by rw[e]at hb3;rcases hb3 with e2|e2<;>cases e2⟩
  · show(w2.setCell ⟨D.bB,s,none⟩ v').cell? ⟨D.bB,r,none⟩=some (upd D.LV s v' r)
    by_cases e:r=s
    · subst e
      rw[upd_same];exact World.cell?_setCell_same _ _ _ (h.lcell' f2 (by intro e;cases e) hr)
    · rw[zAB e,World.cell?_setCell_other _ _ _ _ (fun q=>e (congrArg Addr.off q).symm)]
      exact h.lcell' f2 (by intro e;cases e) hr
  · rw[World.frozen?_setCell]
    exact h.lfree' f2 (by intro e;cases e) r
  · show(w2.setCell ⟨D.bB,s,none⟩ v').ownsRow _ _ 1 (upd D.LV s v' r) (byTo G (r:Int) (jl+1)).length (nivs (byTo G (r:Int) (jl+1)))
    by_cases e:r=s
    · subst e
      rw[upd_same,zPN hsl,List.length_append,show nivs (byTo G (r:Int) jl++[jl])=nivs (byTo G (r:Int) jl)++[.int .i64 (jl:Int)]by simp[nivs]];exact Sep.zAE hown fun b hb3=>Below.heap_setCell _ _ _ _ fun e2=>hgn (hb3.trans (congrArg some e2))
    · rw[zAB e,zMV (by rw[hsl];omega)]
      exact h.lrow' f hr (by rintro(e2|e2); · injection e2 with e2;exact e e2
                             · cases e2)
  · have e':(upd D.LV s v' r).ownBlock=some g:=e
    by_cases er:r=s
    · subst er
      rw[upd_same]at e';exact hl' g e'
    · rw[zAB er]at e'
      exact h.old ag (h.ll r hr g e') (by intro e;cases e)
theorem RP.tail(h:RP w0 p mb G aS n cS jr jl jt D lab w){tP tD}{a}{c}(ht:TlV G (zAF G (jt:Int)).2 w0.heap.size tP tD (zAF G (jt:Int)).2.length (.slice a (zAF G (jt:Int)).2.length c) w)(h1:∀g,(Value.slice a (zAF G (jt:Int)).2.length c).ownBlock=some g->lab g=.fix)(h2:∀d,d<(zAF G (jt:Int)).2.length->lab (tP d)=.fix/\lab (tD d)=.fix)
  {w1 w2} (hb:Below w.heap.size w w1) {v'} (hown:w2.ownsRow w0.heap.size 206 1 v' (jt+1) (((List.range jt).map D.TV)++[.slice a (zAF G (jt:Int)).2.length c])) (hg:w1.grownBy w2 D.tv.ownBlock) (hv:v'.ownBlock=D.tv.ownBlock\/v'.ownBlock=some w1.heap.size):
  ∃lab',RP w0 p mb G aS n cS jr jl (jt+1) {D with tv:=v',TV:=upd D.TV jt (.slice a (zAF G (jt:Int)).2.length c),tP:=upd D.tP jt tP,tD:=upd D.tD jt tD} lab' (w2.setCell ⟨p,4,none⟩ v')/\(∀b,b<w.heap.size->lab' b=lab b)/\Sep.Fr (fun b=>lab b≠.no) w (w2.setCell ⟨p,4,none⟩ v'):=by
 have f2:Cr (fun L=>L=Lr.tls) lab w w2:=Sep.Fr.grown (Sep.Fr.of_below hb) hg fun b e=> .inl (h.lt b e)
 have f:Cr (fun L=>L=Lr.tls\/L=Lr.box) lab w (w2.setCell ⟨p,4,none⟩ v'):=Sep.Fr.setCell (S:=fun b=>lab b=.tls\/lab b=.box) (f2.mono fun b e=> .inl e) _ (.inr h.lp) _;have hs:(w2.setCell ⟨p,4,none⟩ v').heap.size=w2.heap.size:=by simp[World.setCell]
 obtain⟨lab',hl',ag,_,hin⟩:=h.row_lab h.lt (by intro e;cases e) hb.size hg.size (fun g e=>(hown.lt g e).2) hv;obtain⟨t1,t2,t3,t4⟩:=h.turn f (by rintro(e|e)<;>cases e) ag (fun b hb3=>by rw[hs];exact hin b hb3)
 have hgn:v'.ownBlock≠some p:=fun e=>by
  have:=hl' p e;rw[t2]at this;cases this
 refine⟨lab',⟨t1,?_,h.rrow' f (by rintro(e|e)<;>cases e),fun k hk=>h.rights' f (by rintro(e|e)<;>cases e) hk,fun k hk hn b o e=>h.old ag (h.rlab k hk hn b o e) (by intro e;cases e),fun s hsl=>h.lcell' f (by rintro(e|e)<;>cases e) hsl,fun s=>h.lfree' f (by rintro(e|e)<;>cases e) s,fun s hsl=>h.lrow' f hsl (by rintro(e|e)<;>cases e),?_,fun k hk=>?_,fun k hk=>?_,t2,t3,fun g e=>h.old ag (h.lr g e) (by intro e;cases e),fun s hsl g e=>h.old ag (h.ll s hsl g e) (by intro e;cases e),hl',t4,fun b hb3=>by rw[hs];exact hin b hb3⟩,ag,f.mono fun b hb3 e=>by rw[e]at hb3;rcases hb3 with e2|e2<;>cases e2⟩
 ·have hx:=(h.box' f2 (by intro e;cases e)).set (j:=4) (by rw[zOK];omega) v';rw[zU3]at hx;exact hx
 ·show(w2.setCell ⟨p,4,none⟩ v').ownsRow _ _ 1 v' (jt+1) ((List.range (jt+1)).map (upd D.TV jt (.slice a (zAF G (jt:Int)).2.length c)))
  have e:(List.range (jt+1)).map (upd D.TV jt (.slice a (zAF G (jt:Int)).2.length c))=(List.range jt).map D.TV++[.slice a (zAF G (jt:Int)).2.length c]:=by
   rw[List.range_succ,List.map_append]
   congr 1
   ·refine List.map_congr_left fun k hk=>?_
    have:=List.mem_range.1 hk;rw[zAB (by omega)]
   ·rw[List.map_singleton,upd_same]
  rw[e];exact Sep.zAE hown fun b hb3=>Below.heap_setCell _ _ _ _ fun e2=>hgn (hb3.trans (congrArg some e2))
 ·show∃a' c',upd D.TV jt _ k= _/\TlV G _ _ (upd D.tP jt tP k) (upd D.tD jt tD k) _ (upd D.TV jt _ k) _
  by_cases e:k=jt
  ·subst e;rw[upd_same,upd_same,upd_same];refine⟨a,c,rfl,Sep.zAE ht.row fun g hg=>h.keep f (h1 g hg) (by intro h;cases h) (by rintro(e|e)<;>cases e),fun d hd=>?_,ht.low,ht.off⟩;exact(ht.sets d hd).keep f.size (h.keep f (h2 d hd).1 (by intro h;cases h) (by rintro(e|e)<;>cases e)) (h.keep f (h2 d hd).2 (by intro h;cases h) (by rintro(e|e)<;>cases e))
  ·rw[zAB e,zAB e,zAB e];exact h.tails' f (by rintro(e|e)<;>cases e) (by omega)
 ·show(∀g,(upd D.TV jt _ k).ownBlock=some g->lab' g=.fix)/\∀d,d<_->lab' (upd D.tP jt tP k d)=.fix/\lab' (upd D.tD jt tD k d)=.fix
  by_cases e:k=jt
  ·subst e;rw[upd_same,upd_same,upd_same];exact⟨fun g e=>h.old ag (h1 g e) (by intro e;cases e),fun d hd=>⟨h.old ag (h2 d hd).1 (by intro e;cases e),h.old ag (h2 d hd).2 (by intro e;cases e)⟩⟩
  ·rw[zAB e,zAB e,zAB e];have hk':k<jt:=by omega
   exact⟨fun g e=>h.old ag ((h.tlab k hk').1 g e) (by intro e;cases e),fun d hd=>⟨h.old ag ((h.tlab k hk').2 d hd).1 (by intro e;cases e),h.old ag ((h.tlab k hk').2 d hd).2 (by intro e;cases e)⟩⟩
theorem RP.relab(h:RP w0 p mb G aS n cS jr jl jt D lab w){B:Nat->Prop}(hB:∀b,B b->lab b=.no/\b<w.heap.size/\w0.heap.size<=b):
  ∃lab',RP w0 p mb G aS n cS jr jl jt D lab' w/\(∀b,B b->lab' b=.fix)/\∀b,¬B b->lab' b=lab b:=by
 classical
 have old:∀b L,lab b=L->L≠.no->(if B b then Lr.fix else lab b)=L:=fun b L e hn=>by
  by_cases hb:B b
  ·exact absurd (e.symm.trans (hB b hb).1) hn
  ·rw[if_neg hb];exact e
 refine⟨fun b=>if B b then .fix else lab b,⟨h.fr,h.box,h.rrow,h.rights,fun k hk hn b o e=>old _ _ (h.rlab k hk hn b o e) (by intro e;cases e),h.lcell,h.lfree,h.lrow,h.trow,h.tails,fun k hk=>⟨fun g e=>old _ _ ((h.tlab k hk).1 g e) (by intro e;cases e),fun d hd=>⟨old _ _ ((h.tlab k hk).2 d hd).1 (by intro e;cases e),old _ _ ((h.tlab k hk).2 d hd).2 (by intro e;cases e)⟩⟩,old _ _ h.lp (by intro e;cases e),old _ _ h.lb (by intro e;cases e),fun g e=>old _ _ (h.lr g e) (by intro e;cases e),fun s hs g e=>old _ _ (h.ll s hs g e) (by intro e;cases e),fun g e=>old _ _ (h.lt g e) (by intro e;cases e),fun b hb=>?_,fun b hb=>?_⟩,fun b hb=>if_pos hb,fun b hb=>if_neg hb⟩
 ·by_cases e:B b
  ·exact .inr (.inr (hB b e).2.2)
  ·rw[if_neg e]at hb;exact h.low b hb
 ·by_cases e:B b
  ·exact(hB b e).2.1
  ·rw[if_neg e]at hb;exact h.inn b hb
end
end Lk
namespace Lk
open Gr (Gram ivs zAF top checkN)
open Im
open Au
open Fi (VS SAt rm tv)
open Rw (Bk)
def Sl0(Z:Nat->Prop)(w:World):Prop:=∀b,Z b->∃a n c,w.cell? ⟨b,0,none⟩=some (.slice a n c)
theorem SAt.fr{I}{P D}{p q1 q2 t n}{V}{w w'}{Z}(h:SAt I P D p q1 q2 t n V w)(hZ:Sl0 Z w)(f:Sep.Fr Z w w'):SAt I P D p q1 q2 t n V w':=by
 have ne:∀b v,w.cell? ⟨b,0,none⟩=some v->(∀a n c,v≠.slice a n c)->¬Z b:=fun b v hc hv hb=>by
  obtain⟨a,n,c,e⟩:=hZ b hb;rw[hc]at e;injection e with e
  exact hv _ _ _ e
 have h0:0<n:=by have:=h.tn;omega
 have hp:¬Z p:=ne p _ (h.box.cell (j:=0) rfl) (by intro a n c e;cases e);have hq1:¬Z q1:=ne q1 _ (h.firsts 0 h0) (by intro a n c e;cases e)
 have hq2:¬Z q2:=by
  have:=h.follows 0 h0;refine ne q2 _ this ?_;intro a n c e;split at e<;>cases e
 refine⟨h.box.fr f hp,fun s hs=>f.cell (h.firsts s hs) hq1,fun s hs=>f.cell (h.follows s hs) hq2,⟨fun k hk=>?_,h.fam.inj,h.fam.off⟩,h.off,h.ie,h.if_,h.ig,h.tn,h.n4⟩;have s:=h.fam.at_ k hk
 have hrm:0<Bt.sz (rm t n k):=by
  have:1<=rm t n k:=by
   unfold rm;split<;>omega
  unfold Bt.sz;omega
 refine s.keep f.size (f.block _ s.inp (ne _ _ s.room (by intro a n c e;cases e))) (f.block _ s.ind (ne _ _ (s.holds 0 hrm) (by intro a n c e;cases e)))
theorem VS.fr{nl}{I}{P D}{v}{t n}{C}{F B}{O}{w w'}{Z}(h:VS nl I P D v t n C F B O w)(hZ:Sl0 Z w)(f:Sep.Fr Z w w'):VS nl I P D v t n C F B O w':=by
 rcases h with h|⟨h1,p,q1,q2,h2,h3⟩
 ·exact .inl h
 ·exact .inr ⟨h1,p,q1,q2,h2,SAt.fr h3 hZ f⟩
def rd0(bB cB:Nat):Rd:=⟨bB,cB,.slice none 0 0,.slice none 0 0,fun _=> .slice none 0 0,fun _=>none,fun _=>0,fun _=> .slice none 0 0,fun _ _=>0,fun _ _=>0⟩
theorem RP.start{w0}{p mb bB cB}{G}{aS}{n cS}(hb:Bk p (rb aS n cS G mb (rd0 bB cB)) 177 w0)(hB:Bk bB (madeCells #[.slice none 0 0] (top G+1)) 29 w0)(hne:bB≠p):
  ∃lab,RP w0 p mb G aS n cS 0 0 0 (rd0 bB cB) lab w0:=by
 have nl:∀g,(Value.slice none 0 0).ownBlock=some g->False:=fun g e=>by simp[Value.ownBlock]at e
 refine⟨fun b=>if b=p then .box else if b=bB then .bb else .no,.refl _ _,hb,World.ownsRow_nil _ _ _ _,fun k hk=>absurd hk (Nat.not_lt_zero k),fun k hk=>absurd hk (Nat.not_lt_zero k),fun s hs=>hB.cell (zG7 _ s (by omega) _),fun s=>hB.free s,fun s hs=>World.ownsRow_nil _ _ _ _,World.ownsRow_nil _ _ _ _,fun k hk=>absurd hk (Nat.not_lt_zero k),fun k hk=>absurd hk (Nat.not_lt_zero k),if_pos rfl,?_,fun g e=>(nl g e).elim,fun s _ g e=>(nl g e).elim,fun g e=>(nl g e).elim,fun b e=>?_,fun b e=>?_⟩
 ·show(if bB=p then Lr.box else if bB=bB then Lr.bb else Lr.no)=.bb;rw[if_neg hne,if_pos rfl]
 ·by_cases h1:b=p
  ·exact .inl h1
  ·by_cases h2:b=bB
   ·exact .inr (.inl h2)
   ·rw[if_neg h1,if_neg h2]at e;exact absurd rfl e
 ·by_cases h1:b=p
  ·exact h1▸hb.lt
  ·by_cases h2:b=bB
   ·exact h2▸hB.lt
   ·rw[if_neg h1,if_neg h2]at e;exact absurd rfl e
section
variable {w0:World} {p mb:Nat} {G:Gram} {aS:Option Addr} {n cS:Nat} {jr jl jt:Nat} {D:Rd} {lab:Nat->Lr} {w w1 w2:World}
theorem RP.rule_box(h:RP w0 p mb G aS n cS jr jl jt D lab w)(hb:Below w.heap.size w w1)(hg:w1.grownBy w2 D.rv.ownBlock):w2.cell? ⟨p,2,none⟩=some D.rv/\w2.frozen? ⟨p,2,none⟩=false:=by
 have f2:Cr (fun L=>L=.rul) lab w w2:=Sep.Fr.grown (Sep.Fr.of_below hb) hg fun b e=> .inl (h.lr b e)
 have hx:=h.box' f2 (by intro e;cases e);exact⟨hx.cell rfl,hx.free 2⟩
theorem RP.left_cell(h:RP w0 p mb G aS n cS jr jl jt D lab w){s}(hs:s<=top G)(hb:Below w.heap.size w w1)(hg:w1.grownBy w2 (D.LV s).ownBlock):w2.cell? ⟨D.bB,s,none⟩=some (D.LV s)/\w2.frozen? ⟨D.bB,s,none⟩=false:=by
 have f2:Cr (fun L=>L=.lft s) lab w w2:=Sep.Fr.grown (Sep.Fr.of_below hb) hg fun b e=> .inl (h.ll s hs b e)
 exact⟨h.lcell' f2 (by intro e;cases e) hs,h.lfree' f2 (by intro e;cases e) s⟩
theorem RP.tail_box(h:RP w0 p mb G aS n cS jr jl jt D lab w)(hb:Below w.heap.size w w1)(hg:w1.grownBy w2 D.tv.ownBlock):w2.cell? ⟨p,4,none⟩=some D.tv/\w2.frozen? ⟨p,4,none⟩=false:=by
 have f2:Cr (fun L=>L=.tls) lab w w2:=Sep.Fr.grown (Sep.Fr.of_below hb) hg fun b e=> .inl (h.lt b e)
 have hx:=h.box' f2 (by intro e;cases e);exact⟨hx.cell rfl,hx.free 4⟩
theorem RP.new_no(h:RP w0 p mb G aS n cS jr jl jt D lab w){b}(hb:w.heap.size<=b):lab b=.no:=by
 cases e:lab b with
 |no=>rfl
 |_=>
  have:=h.inn b (by rw[e];intro e;cases e);omega
theorem zQ2{a}{L}{w}(h:Sep.Reads a (ivs L) w)(hn:L≠[]){b o}(e:a=some ⟨b,o,none⟩):b<w.heap.size:=by
 cases L with
 |nil=>exact absurd rfl hn
 |cons y Y=>
  obtain⟨b',o',e',hc⟩:=h 0 (by simp[ivs]);rw[e]at e';injection e' with e'
  injection e' with e1 e2
  subst e1;exact World.block_lt_of_cell? _ _ hc
end
def nt0:Nt:=⟨[],fun _=>0,fun _=>0,fun _=>[],fun _=> .slice none 0 0,fun _ _=>false,fun _=>false,[]⟩
theorem lk0(G)(q):LkI G q nt0 0:=
 ⟨⟨List.nodup_nil,(fun p hp=>by cases hp),fun k i c hk=>by cases hk⟩,fun k hk=>absurd hk (Nat.not_lt_zero k),rfl,fun k hk=>absurd hk (Nat.not_lt_zero k)⟩
theorem RP.fix{w0 W}{p mb}{G}{q}{aS}{cS}{D}{lab}(h:RP w0 p mb G aS (states q).length cS (G.rules.length+1) (G.rules.length+1) (G.rules.length+1) D lab W)(hv:checkN G=0)(dn:Done G q)(sm:Small (states q))(len:q.1.length<=2000)
  (sts:∀w,Sep.Fr (fun b=>b=p\/b=mb) W w->StaA aS (states q) w) (hm:mb<w0.heap.size) (hpm:p≠mb) (hmB:mb≠D.bB) (map:NMap mb 0 (fun _=>none) W):
  ∃K:Fk,K.p=p/\Fix W K G q/\∃S,NAt W K G q nt0 S W/\∀b,S b->b=p\/b=mb:=by
 obtain⟨⟨a2,c2,e2⟩,⟨a4,c4,e4⟩⟩:=(⟨Rw.zAG h.rrow,Rw.zAG h.trow⟩:_/\_);have hr2:=h.rrow;have hr4:=h.trow;rw[e2]at hr2;rw[e4]at hr4
 obtain⟨bR,rfl⟩:∃bR,a2=some ⟨bR,0,none⟩:=by
  rcases hr2.2 with⟨e,_⟩|⟨g,_,_,e,_⟩
  ·cases e
  ·simp only[Value.slice.injEq]at e;exact⟨g,e.1⟩
 obtain⟨bT,rfl⟩:∃bT,a4=some ⟨bT,0,none⟩:=by
  rcases hr4.2 with⟨e,_⟩|⟨g,_,_,e,_⟩
  ·cases e
  ·simp only[Value.slice.injEq]at e;exact⟨g,e.1⟩
 have hpl:=h.lab_lt h.lp (by intro e;cases e);have hml:mb<W.heap.size:=Nat.lt_of_lt_of_le hm h.fr.size;refine⟨⟨aS,cS,bR,c2,D.bB,D.cB,bT,c4,D.tP,D.tD,p,mb⟩,rfl,⟨hv,dn,sm,len,fun w f=>?_,hpl,hml,hpm⟩,?_⟩
 ·have kw:∀b L,lab b=L->L≠.no->L≠.box->w.heap[b]?=W.heap[b]?:=fun b L e h1 h2=>by
   refine f.block b (h.inn b (e▸h1)) ?_;rintro(r|r)
   ·have r:b=p:=r;rw[r,h.lp]at e;exact h2 e.symm
   ·have r:b=mb:=r;rcases h.low b (e▸h1)with r2|r2|r2
    ·exact hpm (r2.symm.trans r)
    ·exact hmB (r.symm.trans r2)
    ·omega
  have ww:World.heap W=W.heap:=rfl;refine⟨sts w f,fun k hk=>?_,fun s hs=>?_,fun k hk=>?_⟩
  ·have hro:w.ownsRow w0.heap.size 55 2 (.slice (some ⟨bR,0,none⟩) (G.rules.length+1) c2) (G.rules.length+1) ((List.range (G.rules.length+1)).flatMap (rcs G D)):=Sep.zAE hr2 fun g hg=>kw g _ (h.lr g (by rw[e2];exact hg)) (by intro e;cases e) (by intro e;cases e)
   have rd:=World.ownsRow.cells hro (g:=bR) rfl;have t0:=rd (k*2+0) _ (by rw[Rw.zBT (rcs G D) (zGa G D) _ k (by simp;omega) 0 (by omega),List.getElem_range];rfl);have t1:=rd (k*2+1) _ (by rw[Rw.zBT (rcs G D) (zGa G D) _ k (by simp;omega) 1 (by omega),List.getElem_range];rfl);rw[WideShapes.add_plain]at t0 t1
   refine⟨D.aR k,D.cR k,by simpa using t0,by simpa using t1,by
    by_cases hn:(zAF G (k:Int)).2=[]
    ·rw[hn];exact .nil _ _
    ·exact(h.rights k (by omega)).keep fun b o e=>kw b _ (h.rlab k (by omega) hn b o e) (by intro e;cases e) (by intro e;cases e)⟩
  ·have hro:=Sep.zAE (w':=w) (h.lrow s hs) fun g hg=>kw g _ (h.ll s hs g hg) (by intro e;cases e) (by intro e;cases e)
   obtain⟨a,c,e⟩:=Rw.zAG hro;refine⟨a,c,?_,?_⟩
   ·have hc:=(World.cell?_of_block (a:=⟨D.bB,s,none⟩) (kw D.bB _ h.lb (by intro e;cases e) (by intro e;cases e))).trans (h.lcell s hs);rw[e]at hc;exact hc
   ·rw[e]at hro;exact Sep.Reads.of_row hro
  ·obtain⟨a,c,e,t⟩:=h.tails k (by omega);obtain⟨l1,l2⟩:=h.tlab k (by omega);have hro:w.ownsRow w0.heap.size 206 1 (.slice (some ⟨bT,0,none⟩) (G.rules.length+1) c4) (G.rules.length+1) ((List.range (G.rules.length+1)).map D.TV):=Sep.zAE hr4 fun g hg=>kw g _ (h.lt g (by rw[e4];exact hg)) (by intro e;cases e) (by intro e;cases e)
   have t0:=World.ownsRow.cells hro (g:=bT) rfl k (D.TV k) (by rw[List.getElem?_map,List.getElem?_range (by omega)];rfl);rw[WideShapes.add_plain]at t0;refine⟨a,c,by rw[←e];simpa using t0,fun d hd=>?_⟩;have htr:=Sep.zAE (w':=w) t.row fun g hg=>kw g _ (l1 g hg) (by intro e;cases e) (by intro e;cases e)
   rw[e]at htr;rcases htr.2 with⟨_,h0⟩|⟨g,cap,cur,e5,_⟩
   ·omega
   ·simp only[Value.slice.injEq]at e5;obtain⟨rfl,_,_⟩:=e5;have rd:=World.ownsRow.cells htr (g:=g) rfl;have y0:=rd (d*2+0) _ (by rw[Rw.zBT (fun d=>tcs (D.tP k d,tlE G (zAF G (k:Int)).2 d)) (fun _=>rfl) _ d (by simp;omega) 0 (by omega),List.getElem_range];rfl);have y1:=rd (d*2+1) _ (by rw[Rw.zBT (fun d=>tcs (D.tP k d,tlE G (zAF G (k:Int)).2 d)) (fun _=>rfl) _ d (by simp;omega) 1 (by omega),List.getElem_range];rfl);rw[WideShapes.add_plain]at y0 y1;exact⟨g,rfl,by simpa using y0,(show w.cell? ⟨g,d*2+1,none⟩=some (.bool (tlE G (zAF G (k:Int)).2 d))from by simpa using y1),(t.sets d hd).keep f.size (kw _ _ (l2 d hd).1 (by intro e;cases e) (by intro e;cases e)) (kw _ _ (l2 d hd).2 (by intro e;cases e) (by intro e;cases e))⟩
 ·have nl:∀g,(Value.slice none 0 0).ownBlock=some g->False:=fun g e=>by simp[Value.ownBlock]at e
  refine⟨fun b=>(if b=p then Lb.box else if b=mb then Lb.map else Lb.no)≠.no,⟨fun b=>if b=p then .box else if b=mb then .map else .no,.slice none 0 0,.slice none 0 0,⟨.refl _ _,?_,World.ownsRow_nil _ _ _ _,fun k hk=>absurd hk (Nat.not_lt_zero k),fun k hk=>absurd hk (Nat.not_lt_zero k),fun k hk=>absurd hk (Nat.not_lt_zero k),?_,World.ownsRow_nil _ _ _ _,if_pos rfl,?_,fun g e=>(nl g e).elim,fun k hk=>absurd hk (Nat.not_lt_zero k),fun k hk=>absurd hk (Nat.not_lt_zero k),fun k hk=>absurd hk (Nat.not_lt_zero k),fun g e=>(nl g e).elim,fun b e=>?_,fun b e=>?_⟩,rfl⟩,fun b e=>?_⟩
  ·have:=h.box;unfold rb at this;rw[e2,e4]at this;exact this
  ·exact map.eq fun x=>by simp[numX,nt0]
  ·show(if mb=p then Lb.box else if mb=mb then Lb.map else Lb.no)=.map;rw[if_neg (fun e=>hpm e.symm),if_pos rfl]
  ·by_cases h1:b=p
   ·exact .inl h1
   ·by_cases h2:b=mb
    ·exact .inr (.inl h2)
    ·rw[if_neg h1,if_neg h2]at e;exact absurd rfl e
  ·by_cases h1:b=p
   ·exact h1▸hpl
   ·by_cases h2:b=mb
    ·exact h2▸hml
    ·rw[if_neg h1,if_neg h2]at e;exact absurd rfl e
  ·have e:(if b=p then Lb.box else if b=mb then Lb.map else Lb.no)≠.no:=e
   by_cases h1:b=p
   ·exact .inl h1
   ·by_cases h2:b=mb
    ·exact .inr h2
    ·rw[if_neg h1,if_neg h2]at e;exact absurd rfl e
