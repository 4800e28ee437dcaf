/- Proof. -/
import Derived.ScopeJumps
import Derived.WalkMore
import Derived.Test.YtegeamggbglneaaGreatDoorPk33
import Derived.Test.YtegeamggbglneaaGreatDoorPk37
import Derived.Test.YtegeamggbglneaaGreatDoorPk34
import Derived.Test.YtegeamggbglneaaGreatDoorPk38
set_option maxHeartbeats 16000000
set_option maxRecDepth 100000
set_option linter.unusedVariables false
namespace Go.Proofs.YtegeamggbglneaaGreatDoor
open Go.RowKit Go.Maps
namespace Lk
open Gr (ai checkN)
open Im
open Au
open Bt (bz)
theorem zQf{p:Nat->Prop}(h:∃n,p n):∃n,p n/\∀k,k<n->¬p k:=by
 obtain⟨n,hn⟩:=h
 induction n using Nat.strongRecOn with
 |_ n ih=>
  by_cases hk:∃k,k<n/\p k
  ·obtain⟨k,h1,h2⟩:=hk;exact ih k h1 h2
  ·exact⟨n,hn,fun k h1 h2=>hk ⟨k,h1,h2⟩⟩
open Classical in
theorem zJf{P}{a}{w}{Q}{c body}{γ:Type}(l)(J:γ->Act->World->Prop)(μ:γ->Nat)(hf:findLabel c l=some (Code.skip.seq body))
  (pass:∀g a w,J g a w->body.wp P (Exit.jump l (fun a' w'=>∃g',J g' a' w'/\μ g'<μ g) Q) a w)
  (first:(∀g a w,J g a w->body.wp P (Exit.jump l (fun a' w'=>∃g',J g' a' w') Q) a w)->c.wp P (Exit.jump l (fun a' w'=>∃g',J g' a' w') Q) a w):(Code.scope c).wp P Q a w:=by
 have hex:∀a w,(∃g,J g a w)->∃n,(∃g,J g a w/\μ g=n)/\∀k,k<n->¬∃g,J g a w/\μ g=k:=fun a w ⟨g,hg⟩=>zQf ⟨μ g,g,hg,rfl⟩
 let m:Act->World->Nat:=fun a w=>if h:∃g,J g a w then(hex a w h).choose else 0
 have hm:∀a w (h:∃g,J g a w),(∃g,J g a w/\μ g=m a w)/\∀k,k<m a w->¬∃g,J g a w/\μ g=k:=fun a w h=>by
  have:=(hex a w h).choose_spec;show(∃g,J g a w/\μ g=(if h:∃g,J g a w then(hex a w h).choose else 0))/\∀k,k<(if h:∃g,J g a w then(hex a w h).choose else 0)->_;rw[dif_pos h];exact this
 refine wp_scope_jumps l (fun a w=>∃g,J g a w) m hf (first fun g a w h=>?_) fun a w h=>?_
 ·refine wp_mono (pass g a w h) fun e a' w' hq=>?_
  cases e with
  |goto l'=>exact⟨hq.1,hq.2.imp fun _ k=>k.1⟩
  |_=>exact hq
 ·obtain⟨g,hg,hn⟩:=(hm a w h).1;refine wp_seq (wp_skip ?_);refine wp_mono (pass g a w hg) fun e a' w' hq=>?_
  cases e with
  |goto l'=>
   obtain⟨h1,g',h2,h3⟩:=hq;refine⟨h1,⟨g',h2⟩,?_⟩;have:=hm a' w' ⟨g',h2⟩;rcases Nat.lt_or_ge (m a' w') (m a w)with r|r
   ·exact r
   ·exact absurd ⟨g',h2,rfl⟩ (this.2 (μ g') (by omega))
  |_=>exact hq
def ib(N M:Nt):Prop:=M.ak=N.ak/\M.Ys=N.Ys/\M.wv=N.wv/\M.D=N.D/\M.E=N.E
theorem ib.trans{N M L}(h:ib N M)(k:ib M L):ib N L:=⟨k.1.trans h.1,k.2.1.trans h.2.1,k.2.2.1.trans h.2.2.1,k.2.2.2.1.trans h.2.2.2.1,k.2.2.2.2.trans h.2.2.2.2⟩
theorem ib.give(m)(N)(k)(F):ib N (N.give m k F):=⟨rfl,rfl,rfl,rfl,rfl⟩
theorem ib.pop(N)(k):ib N (N.pop k):=⟨rfl,rfl,rfl,rfl,rfl⟩
theorem ib.go(m)(N)(k)(y):ib N (N.go m k y):=by
 obtain⟨h1,h2,h3,h4,h5⟩:=zVG m N k y;exact⟨h1,h2,h5,h3,h4⟩
theorem ib.lk{G}{q}{N M}(h:ib N M)(k:lD G q N):lD G q M:=by
 obtain⟨h1,h2,_⟩:=h;refine⟨by rw[h1];exact k.nd,by rw[h1];exact k.can,?_⟩;rw[h1,h2];exact k.sound
theorem ib.lkd{G}{q}{N M}(h:ib N M){i}{x}(k:nT G q N i x):nT G q M i x:=by
 obtain⟨h1,h2,_⟩:=h;unfold nT;rw[h1,h2];exact k
theorem ir.sp3{G}{q}{N}{cnt m}(h:ir G q N cnt)(hm:m<=4096):jY G q m N N.Ys:=by
 refine⟨fun k hk=>⟨hm,fun t _=>(h.oW k hk).1 t⟩,fun k i c hk t ht=>?_,by rw[h.qs];exact List.nodup_nil,fun k=>?_,fun k hk hw=>?_,fun k hk=> .inr (.inl (h.oW k hk).1)⟩
 ·rw[(h.oW k (nE hk)).1 t]at ht;cases ht
 ·rw[h.qs];constructor
  ·intro e;cases e
  ·rintro⟨hk,hw⟩;rw[(h.oW k hk).2]at hw;cases hw
 ·rw[(h.oW k hk).2]at hw;cases hw
theorem zPF{G}(hT:G.terms.length<=1000)(k d):bz (Fe G k d) (G.terms.length+1):=⟨by omega,fun u hu=>by
 unfold Fe;have:decide (u<G.terms.length+1)=false:=decide_eq_false (by omega)
 rw[this,Bool.false_and]⟩
theorem oc.upto{K}{G}{y}(h:oc K G y)(hT:G.terms.length<=1000):bz y.f (G.terms.length+1):=by
 rcases h with⟨_,e⟩|⟨k,d,_,_,_,e⟩
 ·rw[e];exact⟨by omega,fun _ _=>rfl⟩
 ·rw[e];exact zPF hT k d
theorem oc.ptr{K}{G}{y}(h:oc K G y):∃pa,y.v=.pointer pa:=by
 rcases h with⟨e,_⟩|⟨k,d,_,_,e,_⟩<;>exact⟨_,e⟩
section
variable {W:World} {K:Fk} {G:ai} {q:Whole} {N:Nt} {lab:Nat->Lb} {cv qv:Value} {w:World}
theorem NP.IV(h:NP W K G q N lab cv qv w){k}(hk:k<N.ak.length):W.heap.size<=N.E k:=by
 have e:=h.lE k hk;rcases h.low (N.E k) (by rw[e];intro e;cases e)with r|r|r
 ·rw[r,h.lp]at e;cases e
 ·rw[r,h.lm]at e;cases e
 ·exact r
theorem NP.given(h:NP W K G q N lab cv qv w)(FX:Fix W K G q){y}(hy:oc K G y)(kO:y.to<N.ak.length):Fq N y.to y.v y.f w:=by
 rcases hy with⟨e1,e2⟩|⟨k,d,hk,hd,e1,e2⟩
 ·rw[e1,e2];exact .inl ⟨0,.nil _⟩
 ·rw[e1,e2];obtain⟨a,c,_,f⟩:=(FX.at_ w h.fr).tails k hk;obtain⟨_,_,_,_,hs⟩:=f d hd;obtain⟨a',c',_,f'⟩:=(FX.at_ W (.refl _ _)).tails k hk;obtain⟨_,_,_,_,hs'⟩:=f' d hd;have h1:=hs'.inp;have h2:=hs'.ind;have h3:=h.IV kO;exact .inl ⟨_,.at_ hs (by omega) (by omega)⟩
theorem NP.xx(h:NP W K G q N lab cv qv w){k tt}(hk:k<N.ak.length)(kO:tt<N.ak.length):Fq N tt (.pointer (some ⟨N.D k,0,none⟩)) (N.S k) w:=by
 by_cases e:k=tt
 ·subst e;exact .inr ⟨rfl,rfl⟩
 ·refine .inl ⟨_,.at_ (h.sets k hk) (fun e2=>?_) (fun e2=>?_)⟩
  ·have:=h.lP k hk;rw[e2,h.lE tt kO]at this;cases this
  ·have:=h.lE k hk;rw[e2,h.lE tt kO]at this;injection this with this
   exact e this.symm
end
theorem zR3{α}(f)(s)(x y:α):upd (upd f s x) s y=upd f s y:=by
 funext r
 by_cases e:r=s
 ·subst e;rw[upd_same,upd_same]
 ·rw[bu e,bu e,bu e]
theorem Ef{α}(f:Nat->α)(s):upd f s (f s)=f:=by
 funext r
 by_cases e:r=s
 ·subst e;rw[upd_same]
 ·rw[bu e]
theorem sZ.lt{G}{q}{a}{i}{x}{y}(h:sZ G q a i x y):y.to<a.length:=by
 rcases h with⟨_,_,h,_⟩|⟨_,h,_⟩<;>exact nE h
theorem zR9{G}{q}(hv:checkN G=0){M L}{m k}(lk:lD G q M)(hK:ib M L)(hk:k<M.ak.length){j}(hj)(sp:jY G q m L (upd M.Ys k ((M.Ys k).take j)))(hne:∃t,L.S k t=true)(hf:bz ((M.Ys k)[j]).f m):
  (M.Ys k)[j].to<L.ak.length/\jY G q m (L.give m (M.Ys k)[j].to (M.Ys k)[j].f) (upd M.Ys k ((M.Ys k).take j))/\jY G q m (L.go m k (M.Ys k)[j]) (upd M.Ys k ((M.Ys k).take (j+1)))/\(∃t,(L.go m k (M.Ys k)[j]).S k t=true)/\(L.go m k (M.Ys k)[j]).num m<=L.num m:=by
 have Sm:=hK.lk lk;have zm:k<L.ak.length:=by rw[hK.1];exact hk
 have hmem:(M.Ys k)[j]∈L.Ys k:=by rw[hK.2.1];exact List.getElem_mem hj
 obtain⟨⟨jj,d⟩,hp⟩:∃p,L.ak[k]?=some p:=⟨_,List.getElem?_eq_getElem zm⟩;obtain⟨x,_,_,_,hw⟩:=Sm.sound k jj d hp _ hmem;have kO:=hw.lt;obtain⟨t0,ht0⟩:=hne;have Rx:=sp.snd k jj d hp t0 ht0;have key:∀i c,L.ak[(M.Ys k)[j].to]?=some (i,c)->_:=fun i c hc=>zVv hv Sm hp hmem Rx hc
 obtain⟨⟨i,c⟩,hq⟩:∃p,L.ak[(M.Ys k)[j].to]?=some p:=⟨_,List.getElem?_eq_getElem kO⟩;have s1:=sp.give hq (key i c hq).1
 have s2:=sp.go zm ⟨t0,ht0⟩ kO hf (fun i c hc=>(key i c hc).1) (fun he i c j' d' hc hd=>by
  rw[hp]at hd;injection hd with hd
  injection hd with e1 e2
  subst e1 e2
  exact(key i c hc).2 he)
 refine⟨kO,s1,?_,⟨t0,zWR _ _ _ _ ht0⟩,zVV sp kO s1.qU⟩;rw[upd_same,zR3]at s2;rw[List.take_succ_eq_append_getElem hj];exact s2
structure Ps (W:World) (K:Fk) (G:ai) (q:Whole) (S:Nat->Prop) (w0:World) (N:Nt) (k0:Nat) (M:Nt) (X:Nat->List Way) (T:Nat->Prop) (w:World):Prop where
 at_:gM W K G q M T w
 fr:Sep.Fr S w0 w
 ext:Sep.Ext T S w0
 kp:ib N M
 sp:jY G q (G.terms.length+1) M X
 zero:M.S k0 0=true
section
variable {W:World} {K:Fk} {G:ai} {q:Whole} {S:Nat->Prop} {w0:World} {N:Nt} {k0:Nat} {M L:Nt} {X Y:Nat->List Way} {T U:Nat->Prop} {w w':World}
theorem Ps.went(h:Ps W K G q S w0 N k0 M X T w)(hb:Below w.heap.size w w'):Ps W K G q S w0 N k0 M X T w':=
 ⟨h.at_.went hb,h.fr.trans (.of_below hb) h.ext,h.ext,h.kp,h.sp,h.zero⟩
theorem Ps.turn(h:Ps W K G q S w0 N k0 M X T w)(hL:gM W K G q L U w')(f:Sep.Fr T w w')(x:Sep.Ext U T w)(kp:ib M L)(sp:jY G q (G.terms.length+1) L Y)(z:L.S k0 0=true):Ps W K G q S w0 N k0 L Y U w':=
 ⟨hL,h.fr.trans f h.ext,h.ext.trans x h.fr.size,h.kp.trans kp,sp,z⟩
end
end Lk
namespace Fi
open Gr
theorem Ws{G}(h:iE G=true){r}(hr:r∈G.rules):cp G r.1=true:=by
 unfold iE at h;simp only[Bool.and_eq_true,List.all_eq_true]at h;exact(h.2 r hr).1
theorem WQ{G}(h:iE G=true){r}(hr:r∈G.rules){y}(hy:y∈r.2):1<=y/\y<=(top G:Int):=by
 unfold iE at h;simp only[Bool.and_eq_true,List.all_eq_true]at h;have:=(h.2 r hr).2 y hy
 simpa using this
theorem Vy{G}(h:iE G=true):cp G G.start=true:=by
 unfold iE at h;rw[Bool.and_eq_true]at h;exact h.1
theorem El{G}(h:iE G=true):Ir G (top G+1):=fun r hr=>by
 have:=jN.1 (Ws h hr);have e:top G=G.terms.length+G.ah.length:=rfl;omega
theorem Mg{G}(h:iE G=true){C}(hC:lV C (top G+1)):jZ G.terms.length (top G+1) C (mF G) (lO G):=by
 have e:top G=G.terms.length+G.ah.length:=rfl;have hs:=jN.1 (Vy h);refine⟨hC,fun x i hi=>?_,fun x i hi=>?_,fun x i hi=>?_,fun x i hi=>?_⟩
 ·unfold mF at hi;rw[decide_eq_true_iff]at hi;omega
 ·unfold mF at hi;rw[decide_eq_true_iff]at hi;omega
 ·unfold lO at hi;rw[decide_eq_true_iff]at hi;omega
 ·unfold lO at hi;rw[decide_eq_true_iff]at hi;omega
theorem jZ.dx{t n}{C}{F B}(h:jZ t n C F B){r}(h0:0<=r.1)(h1:r.1<(n:Int)):jZ t n C (dx C F r) B:=by
 refine⟨h.c,fun x i e=>?_,fun x i e=>?_,h.b1,h.b2⟩
 ·unfold Fi.dx at e;simp only[Bool.or_eq_true,Bool.and_eq_true,decide_eq_true_iff]at e;rcases e with e|⟨_,e⟩
  ·exact h.f1 x i e
  ·exact Ec h.f1 _ i e
 ·unfold Fi.dx at e;simp only[Bool.or_eq_true,Bool.and_eq_true,decide_eq_true_iff]at e;rcases e with e|⟨e,_⟩
  ·exact h.f2 x i e
  ·subst e;exact⟨h0,h1⟩
noncomputable def zWi(G)(n)(hn:Ir G n):Pass G (Int->Bool) where
 Inv C:=∀x,C x=true->Can G x
 Tr C0 j C b:=fN G n C0 j C b
 ms C:=mN C n
 Fin C:=C=aD G
 zero _ h:=zJm h
 inv _ _ _ _ h:=h.snd
 yes _ _ _ h:=h.yes rfl
 fin _ _ _ h hj:=h.all hj
noncomputable def zWj(G)(n:Nat):Pass G (Int->Int->Bool) where
 Inv F:=oO G (aD G) F/\lT G F
 Tr F0 j F b:=fO G n F0 j F b
 ms F:=mO F (G.terms.length+1) n
 Fin F:=F=aK G
 zero _ h:=zJn h.1 h.2
 inv _ _ _ _ h:=⟨h.snd,h.leaf⟩
 yes _ _ _ h:=h.yes rfl
 fin _ _ _ h hj:=h.all hj
noncomputable def zWh(G)(n:Nat):Pass G (Int->Int->Bool) where
 Inv B:=jy G B/\B G.start 0=true
 Tr B0 j B b:=bc G n (aD G) (aK G) B0 j 0 B b
 ms B:=mO B (G.terms.length+1) n
 Fin B:=B=gB G
 zero _ h:=zJl h.1 h.2
 inv _ _ _ _ h:=⟨h.snd,h.start⟩
 yes _ _ _ h:=h.yes rfl
 fin _ _ _ h hj:=zVA (h.all (YA G) hj)
def oP(P D:Ix->Nat)(p q1 q2 t n:Nat)(C:Int->Bool)(F B:Int->Int->Bool)(w:World):Prop:=jZ t n C F B/\cP (eH t n n) P D p q1 q2 t n (tv C F B mn) w
theorem oP.went{P D}{p q1 q2 t n}{C}{F B}{w w'}(h:oP P D p q1 q2 t n C F B w)(hb:Below w.heap.size w w'):oP P D p q1 q2 t n C F B w':=⟨h.1,h.2.went hb⟩
theorem Nn{G}(h:y7 G){j}(hj:j<G.rules.length){c}(hc:G.rules[j].2.length<=c):eT G.rules[j].2 c:=by
 have hm:=List.getElem_mem hj;refine⟨fun x hx=>?_,by have:=h.w _ hm;omega,hc⟩;have h1:=WQ h.known hm hx;have e:top G=G.terms.length+G.ah.length:=rfl;have:=h.t;have:=h.n;omega
theorem zL5(p)(W0 w)(h)(G)(k:bI h G W0)(hs:y7 G)(hb0:Below W0.heap.size W0 w){P D}{q1 q2}(hD:∀k,eH G.terms.length (top G+1) (top G+1) k->W0.heap.size<=D k)
  (hS:oP P D p q1 q2 G.terms.length (top G+1) uP (mF G) (lO G) w):
  Calls Tryz.prog 159 #[.slice h.a3 G.rules.length h.c3,.func (.func 160) #[.pointer (some ⟨p,0,none⟩)] #[]] w
   (fun e w'=>∃v,e=.returned v/\oP P D p q1 q2 G.terms.length (top G+1) (aD G) (mF G) (lO G) w'/\Sep.Fr (Ds (eH G.terms.length (top G+1) (top G+1)) D) w w'):=by
 refine(zRm p W0 w h G k (zWi G (top G+1) (El hs.known)) (fun C w=>oP P D p q1 q2 G.terms.length (top G+1) C (mF G) (lO G) w) (Ds (eH G.terms.length (top G+1) (top G+1)) D) uP hs.r hb0 (fun b ⟨k,hk,e⟩=>e▸hD k hk) (fun T w1 w2 h hb=>h.went hb) ?_ hS (zPC G)).mono ?_
 ·intro C0 C j b0 w1 ra rc hj hst htr hb vA hrc;have hl:=El hs.known _ (List.getElem_mem hj);have hlk:=Nn hs hj hrc;obtain⟨s,o9⟩:∃s:Nat,G.rules[j].1=(s:Int):=⟨G.rules[j].1.toNat,by omega⟩;have:=zSm w1 hst.2 hst.1 s (by omega) G.rules[j].2 ra rc (Sep.Reads.below vA hb (Nat.le_refl _)) hlk;rw[←o9]at this;refine this.mono ?_;rintro e w' ⟨b,rfl,hbb,hs1,hf⟩;exact⟨b,eu C G.rules[j],rfl,htr.step (El hs.known) hj hbb,⟨⟨zRa hst.1.c hl.1 hl.2,hst.1.f1,hst.1.f2,hst.1.b1,hst.1.b2⟩,hs1⟩,hf⟩
 ·rintro e w' ⟨v,C,rfl,hfin,hst,hf⟩;have e:C=aD G:=hfin;subst e;exact⟨v,rfl,hst,hf⟩
theorem zL6(p)(W0 w)(h)(G)(k:bI h G W0)(hs:y7 G)(hb0:Below W0.heap.size W0 w){P D}{q1 q2}(hD:∀k,eH G.terms.length (top G+1) (top G+1) k->W0.heap.size<=D k)
  (hS:oP P D p q1 q2 G.terms.length (top G+1) (aD G) (mF G) (lO G) w):
  Calls Tryz.prog 159 #[.slice h.a3 G.rules.length h.c3,.func (.func 161) #[.pointer (some ⟨p,0,none⟩)] #[]] w
   (fun e w'=>∃v,e=.returned v/\oP P D p q1 q2 G.terms.length (top G+1) (aD G) (aK G) (lO G) w'/\Sep.Fr (Ds (eH G.terms.length (top G+1) (top G+1)) D) w w'):=by
 refine(zRn p W0 w h G k (zWj G (top G+1)) (fun F w=>oP P D p q1 q2 G.terms.length (top G+1) (aD G) F (lO G) w) (Ds (eH G.terms.length (top G+1) (top G+1)) D) (mF G) hs.r hb0 (fun b ⟨k,hk,e⟩=>e▸hD k hk) (fun T w1 w2 h hb=>h.went hb) ?_ hS ⟨zWp G,zWe G⟩).mono ?_
 ·intro F0 F j b0 w1 ra rc hj hst htr hb vA hrc;have hl:=El hs.known _ (List.getElem_mem hj);have hlk:=Nn hs hj hrc;obtain⟨s,o9⟩:∃s:Nat,G.rules[j].1=(s:Int):=⟨G.rules[j].1.toNat,by omega⟩;have:=zSn W0 w1 hst.2 hst.1 hb hD s (by omega) G.rules[j].2 ra rc vA hlk;rw[←o9]at this;refine this.mono ?_;rintro e w' ⟨b,rfl,hbb,hs1,hf⟩;exact⟨b,dx (aD G) F G.rules[j],rfl,htr.step (El hs.known) hj hbb,⟨hst.1.dx hl.1 hl.2,hs1⟩,hf⟩
 ·rintro e w' ⟨v,F,rfl,hfin,hst,hf⟩;have e:F=aK G:=hfin;subst e;exact⟨v,rfl,hst,hf⟩
theorem zL4(p)(W0 w)(h)(G)(k:bI h G W0)(hs:y7 G)(hb0:Below W0.heap.size W0 w){P D}{q1 q2}(hD:∀k,eH G.terms.length (top G+1) (top G+1) k->W0.heap.size<=D k)
  (hS:oP P D p q1 q2 G.terms.length (top G+1) (aD G) (aK G) (lO G) w):
  Calls Tryz.prog 159 #[.slice h.a3 G.rules.length h.c3,.func (.func 162) #[.pointer (some ⟨p,0,none⟩)] #[]] w
   (fun e w'=>∃v,e=.returned v/\oP P D p q1 q2 G.terms.length (top G+1) (aD G) (aK G) (gB G) w'/\Sep.Fr (Ds (eH G.terms.length (top G+1) (top G+1)) D) w w'):=by
 refine(zRl p W0 w h G k (zWh G (top G+1)) (fun B w=>oP P D p q1 q2 G.terms.length (top G+1) (aD G) (aK G) B w) (Ds (eH G.terms.length (top G+1) (top G+1)) D) (lO G) hs.r hb0 (fun b ⟨k,hk,e⟩=>e▸hD k hk) (fun T w1 w2 h hb=>h.went hb) ?_ hS (zWM G)).mono ?_
 ·intro B0 B j b0 w1 ra rc hj hst htr hb vA hrc;have hl:=jN.1 (Ws hs.known (List.getElem_mem hj));have e2:top G=G.terms.length+G.ah.length:=rfl;have hlk:=Nn hs hj hrc;obtain⟨s,o9⟩:∃s:Nat,G.rules[j].1=(s:Int):=⟨G.rules[j].1.toNat,by omega⟩;have:=zSk W0 w1 hst.2 hst.1 hb hD rfl rfl j hj b0 htr s G.rules[j].2 (by rw[←o9]) (by omega) ra rc vA hlk;rw[←o9]at this;refine this.mono ?_;rintro e w' ⟨b,B',rfl,ht,hok,hs1,hf⟩;exact⟨b,B',rfl,ht,⟨hok,hs1⟩,hf⟩
 ·rintro e w' ⟨v,B,rfl,hfin,hst,hf⟩;have e:B=gB G:=hfin;subst e;exact⟨v,rfl,hst,hf⟩
noncomputable def um(G:ai):Bool:= !decide (checkN G=0)
noncomputable def kD(G:ai):Int->Bool:=if checkN G=0 then aD G else fun _=>false
noncomputable def kI(G:ai):Int->Int->Bool:=if checkN G=0 then aK G else fun _ _=>false
noncomputable def kC(G:ai):Int->Int->Bool:=if checkN G=0 then gB G else fun _ _=>false
def zWF(G:ai)(w:World)(e:Ending)(w':World):Prop:=
 ∃v P D,e=.returned v/\VS (um G) (eH G.terms.length (top G+1) (top G+1)) P D v G.terms.length (top G+1) (kD G) (kI G) (kC G) mn w'/\(um G=false->jZ G.terms.length (top G+1) (kD G) (kI G) (kC G))/\Below w.heap.size w w'
theorem pF(h:Sh)(G:ai)(w:World)(k:bI h G w):
  Calls Tryz.prog 135 #[gv h G] w (zWF G w):=by
 obtain⟨a1,c1,a2,c2,a3,c3⟩:=h;have hmf:∀(fn:Fn) (first cap:Array Value) (w:World),(Instr.makeFunc fn first cap).run Tryz.prog w=.ok (.func fn first cap) w:=fun _ _ _ _=>rfl
 have X:=af (Bx.start ⟨a1,c1,a2,c2,a3,c3⟩ G w 47);have C:=af (fun w1 (b:Below w.heap.size w w1)=>yw ⟨a1,c1,a2,c2,a3,c3⟩ G w1 (k.went b));obtain⟨x0,x1,x2,x3⟩:=X.out.box
 try dsimp only at x0 x1 x2 x3
 by_cases hc:checkN G=0
 ·have SM:=af (jq hc);have ST:=af (fun w1 (b:Below w.heap.size w w1)=>zO2 ⟨a1,c1,a2,c2,a3,c3⟩ G w1 (k.went b) SM.out);have SE:=af (fun p w1 (b:Below w.heap.size w w1) P D q1 q2 hD hS=>zL5 p w w1 ⟨a1,c1,a2,c2,a3,c3⟩ G k SM.out b (P:=P) (D:=D) (q1:=q1) (q2:=q2) hD hS);have SF:=af (fun p w1 (b:Below w.heap.size w w1) P D q1 q2 hD hS=>zL6 p w w1 ⟨a1,c1,a2,c2,a3,c3⟩ G k SM.out b (P:=P) (D:=D) (q1:=q1) (q2:=q2) hD hS);have SB:=af (fun p w1 (b:Below w.heap.size w w1) P D q1 q2 hD hS=>zL4 p w w1 ⟨a1,c1,a2,c2,a3,c3⟩ G k SM.out b (P:=P) (D:=D) (q1:=q1) (q2:=q2) hD hS);have AN:=af (show um G=false/\kD G=aD G/\kI G=aK G/\kC G=gB G from⟨by unfold um;rw[decide_eq_true hc];rfl,by unfold kD;rw[if_pos hc],by unfold kI;rw[if_pos hc],by unfold kC;rw[if_pos hc]⟩);have T0:=af (Mg SM.out.known (C:=uP) (fun x h=>by cases h));rw[hc]at C;dsimp only at SE SF SB;clear k hc;unfold gv;dsimp only;go_enter Tryz.func135,Tryz.ntmps135
  go_wp2_with (first
   |(go_at_call 107;refine(C.out _ X.out.below).mono ?_;rintro e w1 ⟨rfl,hb⟩;have X1:=af (X.out.went hb);clear hb x0 x1 x2 x3;obtain⟨x0,x1,x2,x3⟩:=X1.out.box;try dsimp only at x0 x1 x2 x3)
   |(go_at_call 158;refine(ST.out _ X1.out.below).mono ?_;rintro e w2 ⟨P,D,p,q1,q2,rfl,hs2,hd2,hb⟩;have X2:=af (X1.out.went hb);have hsz:=X1.out.size;have DD:=af (show∀k,eH G.terms.length (top G+1) (top G+1) k->w.heap.size<D k from fun k hk=>Nat.lt_of_lt_of_le (by omega) (hd2 k hk));have S2:=af (show oP P D p q1 q2 G.terms.length (top G+1) uP (mF G) (lO G) w2 from⟨T0.out,hs2⟩);clear hb hs2 hd2 hsz x0 x1 x2 x3;obtain⟨x0,x1,x2,x3⟩:=X2.out.box;try dsimp only at x0 x1 x2 x3)
   |(go_at_call 159;(with_reducible refine(SE.out _ _ X2.out.below _ _ _ _ (fun k hk=>Nat.le_of_lt (DD.out k hk)) S2.out).mono ?_);rintro e w3 ⟨v3,rfl,hs3,hf3⟩;have S3:=af hs3;have X3:=af (uL X2.out hf3 (fun b ⟨k,hk,e⟩=>e▸DD.out k hk));clear hs3 hf3 x0 x1 x2 x3;obtain⟨x0,x1,x2,x3⟩:=X3.out.box;try dsimp only at x0 x1 x2 x3)
   |(go_at_call 159;(with_reducible refine(SF.out _ _ X3.out.below _ _ _ _ (fun k hk=>Nat.le_of_lt (DD.out k hk)) S3.out).mono ?_);rintro e w4 ⟨v4,rfl,hs4,vq⟩;have S4:=af hs4;have X4:=af (uL X3.out vq (fun b ⟨k,hk,e⟩=>e▸DD.out k hk));clear hs4 vq x0 x1 x2 x3;obtain⟨x0,x1,x2,x3⟩:=X4.out.box;try dsimp only at x0 x1 x2 x3)
   | (go_at_call 159;(with_reducible refine(SB.out _ _ X4.out.below _ _ _ _ (fun k hk=>Nat.le_of_lt (DD.out k hk)) S4.out).mono ?_);rintro e w5 ⟨v5,rfl,hs5,ng⟩;have S5:=af hs5;have X5:=af (uL X4.out ng (fun b ⟨k,hk,e⟩=>e▸DD.out k hk));clear hs5 ng x0 x1 x2 x3))
  go_ret;refine⟨_,P,D,rfl,.inr ⟨AN.out.1,p,q1,q2,rfl,?_⟩,fun _=>?_,X5.out.below⟩
  ·rw[AN.out.2.1,AN.out.2.2.1,AN.out.2.2.2];exact S5.out.2
  ·rw[AN.out.2.1,AN.out.2.2.1,AN.out.2.2.2];exact S5.out.1
 ·have AN:=af (show um G=true/\kD G=(fun _=>false)/\kI G=(fun _ _=>false)/\kC G=(fun _ _=>false)from⟨by unfold um;rw[decide_eq_false hc];rfl,by unfold kD;rw[if_neg hc],by unfold kI;rw[if_neg hc],by unfold kC;rw[if_neg hc]⟩);have hb:(checkN G != 0)=true:=by simpa using hc
  clear k hc;generalize checkN G=ck at*;unfold gv;dsimp only;go_enter Tryz.func135,Tryz.ntmps135;go_wp2_with (go_at_call 107;refine(C.out _ X.out.below).mono ?_;rintro e w1 ⟨rfl,hb⟩;have X1:=af (X.out.went hb);clear hb);go_ret;exact⟨_,fun _=>0,fun _=>0,rfl,.inl ⟨AN.out.1,rfl,AN.out.2⟩,(fun h=>by rw[AN.out.1]at h;cases h),X1.out.below⟩
end Fi
namespace Fi
open Gr
open Bt (jA els)
theorem zNq{l}{B}{W w}{e}{w'}(hE:(els B).map Bt.iv=aN l)(hb:Below W.heap.size W w)(h:Bt.Listed B w e w'):Listed l W e w':=by
 obtain⟨v,rfl,ho,hb2⟩:=h
 have hl:(els B).length=l.length:=by
  have:=congrArg List.length hE
  simpa[aN]using this
 rw[hE,hl]at ho;obtain⟨a,c,rfl⟩:=Sep.zK ho;exact⟨a,c,rfl,Sep.Reads.dQ ho,Ia ho hb.size,Gr.step hb hb2⟩
theorem zTB{P}{n}(h:lV P n)(hn:n<=4096):(els (cF P)).map Bt.iv=aN (jo P n):=by
 rw[←zU1 h hn];unfold aN;rw[List.map_map]
 rfl
def zWE(l:List Int)(b:Bool)(w:World)(e:Ending)(w':World):Prop:=
 ∃a c,e=.returned (.tuple #[.slice a l.length c,.bool b])/\Sep.Reads a (aN l) w'/\New a w/\Below w.heap.size w w'
theorem zQX{C}{F}{L}:jn mn F (L.take (iL C L))=cF (dz C F L):=by
 funext i
 unfold jn cF;rw[zP]
 rfl
theorem zJR{C}(l)(t):dz C (fun _ _=>false) l t=false:=by
 induction l with
 |nil=>rfl
 |cons a l ih=>
  unfold dz;rw[ih];simp
theorem zWU{t a b}:¬eH t a b .o:=fun h=>h
theorem zQg{nl:Bool}{t n:Nat}{P D:Ix->Nat}{v:Value}{C:Int->Bool}{F B:Int->Int->Bool}{O:Nat->Bool}(w:World)(h:VS nl (eH t n n) P D v t n C F B O w)(hT:nl=false->jZ t n C F B)(bF:jA w)(ht:t<=4000)(L:List Int)(a:Option Addr)(c:Nat)(hR:Sep.Reads a (aN L) w)(hL:eT L c):
  Calls Tryz.prog 163 #[v,.slice a L.length c] w (zWE (jo (dz C F L) (t+1)) (!nl&&bC C L) w):=by
 rcases h with⟨rfl,rfl,rfl,rfl,rfl⟩|⟨rfl,p,q1,q2,rfl,h2⟩
 ·have e:jo (dz (fun _=>false) (fun _ _=>false) L) (t+1)=[]:=zQo fun i _=>zJR _ _
  rw[e];clear hT bF hR hL;go_enter Tryz.func163,Tryz.ntmps163;go_wp2;go_ret2;exact⟨none,0,rfl,.nil _ _,(fun x h=>by cases h),.refl _ _⟩
 ·have TB:=af (fun w1 (b:Below w.heap.size w w1)=>bF.below b bF.pos);have T:=af (hT rfl);have H:=af h2;have TM:=af (zRx w h2);have lC:=af (fun w1 (b:Below w.heap.size w w1)=>sj w1 (h2.went b) T.out.c L a c (Sep.Reads.below hR b (Nat.le_refl _)) hL);have mJ:=af (fun I' P' D' w1 (k:cP I' P' D' p q1 q2 t n (tv C F B mn) w1) (hk:I' .o) (hb:Below w.heap.size w w1) (hd:w.heap.size<=D' .o)=>NY w w1 k T.out .o hk rfl hb hd (L.take (iL C L)) a c (GJ hR _) (hL.take _));rw[take_len]at mJ;unfold yL at lC;have E:=af (zTB (Ec (C:=C) T.out.f1 L) (show t+1<=4096 by omega));clear hT bF h2 hR;have hcap:=hL.cap;clear hL;generalize bC C L=al at*;rw[Bool.not_false,Bool.true_and];go_enter Tryz.func163,Tryz.ntmps163
  go_wp2_with (first
   |(go_at_call 181;refine TM.out.mono ?_;rintro e w1 ⟨pN,dN,rfl,hp1,hd1,hs1,hb1,_⟩;have B1:=af hb1;obtain⟨I',P',D',hk',hI',rfl,rfl⟩:=H.out.more zWU hb1 hs1 hp1 hd1;have K1:=af hk';have O1:=af hI';have D1:=af hd1;clear hp1 hd1 hs1 hb1 hk' hI')
   |(go_at_call 183;refine(lC.out _ B1.out).mono ?_;rintro e w2 ⟨rfl,hb⟩;have B2:=af (Gr.step B1.out hb);have K2:=af (K1.out.went hb);clear hb)
   |(go_at_call 184;refine(mJ.out _ _ _ _ K2.out O1.out B2.out D1.out).mono ?_;rintro e w3 ⟨b,rfl,hg,hs3,hk3⟩;have B3:=af (TE B2.out D1.out hk3);have S3:=af hs3;clear hg hs3 hk3)
   | (go_at_call 141;refine(Bt.Hk _ (.at_ S3.out) (TB.out _ B3.out)).mono ?_;rintro e w4 hl;have LL:=af (zNq (l:=jo (dz C F L) (t+1)) (by rw[show jn (tv C F B mn .o) F (L.take (iL C L))=cF (dz C F L)from zQX];exact E.out) B3.out hl);obtain⟨v,rfl,_,_⟩:=hl))
  go_ret2;obtain⟨a4,c4,e4,h4⟩:=LL.out;injection e4 with e4
  subst e4;exact⟨a4,c4,rfl,h4⟩
end Fi
namespace Lk
open Gr (ai aN cell_later boxed step)
open Im
open Au
open Fi (dz bC aD aK gB XK VS jZ eH Ix)
open Bt (az)
open Rw (lL)
theorem zNa:(Tryz.prog.info? 212).map (fun i=>(i.zero,i.size,i.bytes))=some (some (.agg #[.pointer none,.bool false]),2,16):=by kernel_rfl
noncomputable def Gt(G:ai)(L:List Int)(d:Nat):Nat->Bool:=fun u=>decide (u<G.terms.length+1)&&dz (aD G) (aK G) (L.drop (d+1)) (u:Int)
noncomputable def pz(G:ai)(L:List Int)(d:Nat):Bool:=bC (aD G) (L.drop (d+1))
theorem zVo(G)(L)(d):il (G.terms.length+1) (Fi.jo (dz (aD G) (aK G) (L.drop (d+1))) (G.terms.length+1))=Gt G L d:=by
 funext u
 unfold il Gt;rw[Bool.eq_iff_iff,decide_eq_true_iff,Bool.and_eq_true,decide_eq_true_iff,Fi.zX];constructor
 ·rintro⟨h1,_,_,h2⟩;exact⟨h1,h2⟩
 ·rintro⟨h1,h2⟩;exact⟨h1,by omega,by omega,h2⟩
def py(p:Nat×Bool):List Value:=[.pointer (some ⟨p.1,0,none⟩),.bool p.2]
structure nY (G:ai) (L:List Int) (m:Nat) (tP tD:Nat->Nat) (j:Nat) (v:Value) (w:World):Prop where
 row:w.ownsRow m 212 2 v j ((List.range j).flatMap fun d=>py (tP d,pz G L d))
 sets:∀d,d<j->az (tP d) (tD d) (G.terms.length+1) (Gt G L d) w
 low:∀d,d<j->m<=tP d/\m<=tD d
 off:∀d,d<j->v.ownBlock≠some (tP d)/\v.ownBlock≠some (tD d)
theorem nY.nil(G)(L)(m)(tP tD)(w):nY G L m tP tD 0 (.slice none 0 0) w:=
 ⟨World.ownsRow_nil _ _ _ _,fun d hd=>absurd hd (Nat.not_lt_zero d),fun d hd=>absurd hd (Nat.not_lt_zero d),fun d hd=>absurd hd (Nat.not_lt_zero d)⟩
theorem Mp{α:Type}{f g:α->List Value}:∀{l:List α},(∀x∈l,f x=g x)->l.flatMap f=l.flatMap g
 |[],_=>rfl
 |a::l,h=>by rw[List.flatMap_cons,List.flatMap_cons,h a (List.mem_cons_self ..),Mp fun x hx=>h x (List.mem_cons_of_mem _ hx)]
theorem nY.snoc{G}{L}{m j}{tP tD}{v v'}{w w1 w2}(h:nY G L m tP tD j v w){P D}(hP:w.heap.size<=P)(hD:w.heap.size<=D)(hs:az P D (G.terms.length+1) (Gt G L j) w1)(hb:Below w.heap.size w w1)(hm:m<=w.heap.size)
  (hown:w2.ownsRow m 212 2 v' (j+1) (((List.range j).flatMap fun d=>py (tP d,pz G L d))++py (P,pz G L j))) (hg:w1.grownBy w2 v.ownBlock) (hv:v'.ownBlock=v.ownBlock\/v'.ownBlock=some w1.heap.size):
  nY G L m (upd tP j P) (upd tD j D) (j+1) v' w2:=by
 have hs1:=hb.size;have old:∀b,b<w1.heap.size->v.ownBlock≠some b->w2.heap[b]?=w1.heap[b]?:=fun b hb2 e=>hg.block b hb2 fun e2=>e e2.symm
 have off':∀b,b<w1.heap.size->v.ownBlock≠some b->v'.ownBlock≠some b:=fun b hb2 e e2=>by
  rcases hv with r|r
  ·exact e (r.symm.trans e2)
  ·have:=r.symm.trans e2;injection this with this
   omega
 have uk:∀b,w.heap.size<=b->v.ownBlock≠some b:=fun b hb2 e=>by
  have:=(h.row.lt b e).2;omega
 refine⟨?_,fun d hd=>?_,fun d hd=>?_,fun d hd=>?_⟩
 ·have e:((List.range (j+1)).flatMap fun d=>py (upd tP j P d,pz G L d))=((List.range j).flatMap fun d=>py (tP d,pz G L d))++py (P,pz G L j):=by
   rw[List.range_succ,List.flatMap_append]
   congr 1
   ·refine Mp fun d hd=>?_
    have:=List.mem_range.1 hd;rw[bu (by omega)]
   ·show py (upd tP j P j,pz G L j)++[]= _;rw[upd_same,List.append_nil]
  rw[e];exact hown
 ·by_cases e:d=j
  ·subst e;rw[upd_same,upd_same];exact hs.keep hg.size (old P hs.inp (uk P hP)) (old D hs.ind (uk D hD))
  ·have hd':d<j:=by omega
   rw[bu e,bu e];have k:=(h.sets d hd').below hb (h.sets d hd').inp (h.sets d hd').ind;exact k.keep hg.size (old _ k.inp (h.off d hd').1) (old _ k.ind (h.off d hd').2)
 ·by_cases e:d=j
  ·subst e;rw[upd_same,upd_same];omega
  ·rw[bu e,bu e];exact h.low d (by omega)
 ·by_cases e:d=j
  ·subst e;rw[upd_same,upd_same];exact⟨off' P hs.inp (uk P hP),off' D hs.ind (uk D hD)⟩
  ·have hd':d<j:=by omega
   rw[bu e,bu e];have k:=h.sets d hd';exact⟨off' _ (by have:=k.inp;omega) (h.off d hd').1,off' _ (by have:=k.ind;omega) (h.off d hd').2⟩
theorem zRo{a}{X}{w}(h:Sep.Reads a (aN X) w){k c}(hk:k<=X.length)(hc:X.length<=c):
  ∃a1 c1,(∀W,(Instr.slice 29 (.slice a X.length c) (some (.int .i64 (k:Int))) none none).run Tryz.prog W=.ok (.slice a1 (X.drop k).length c1) W)/\Sep.Reads a1 (aN (X.drop k)) w/\(X.drop k).length<=c1:=by
 refine⟨if c=k then a else a.map (·.add (k*1)),c-k,fun W=>?_,fun j hj=>?_,by rw[List.length_drop];omega⟩
 ·rw[run_slice_l W 29 a X.length c zWP .i64 (k:Int) (by omega) (by omega),zWo];simp[Result.andThen_ok,sliced]
 ·rw[XG,List.length_drop]at hj;have hck:¬c=k:=by omega
  obtain⟨b,o,e,hx⟩:=h (k+j) (by rw[XG];omega);refine⟨b,o+k,?_,?_⟩
  ·rw[if_neg hck,e];simp[Addr.add]
  ·rw[show o+k+j=o+(k+j)by omega,hx];simp[zQW]
def zMW(G:ai)(L:List Int)(w:World)(e:Ending)(w':World):Prop:=∃tP tD a c,e=.returned (.slice a L.length c)/\nY G L w.heap.size tP tD L.length (.slice a L.length c) w'/\Below w.heap.size w w'
theorem zRv(T)(base P q)(b)(w:World)(hq:q=w.heap.size)(hb:base<=q):(w.alloc (.cells #[.pointer (some ⟨P,0,none⟩),.bool b] T)).ownsRow base T 2 (.slice (some ⟨q,0,none⟩) 1 1) 1 (py (P,b)):=by
 subst hq;exact World.ownsRow_lit w #[.pointer (some ⟨P,0,none⟩),.bool b] 1 hb (by decide) (by simp)
theorem zJj{G:ai}{P D:Ix->Nat}{vS:Value}{O:Nat->Bool}{p:Nat}(w:World)(hS:VS false (eH G.terms.length (Gr.top G+1) (Gr.top G+1)) P D vS G.terms.length (Gr.top G+1) (aD G) (aK G) (gB G) O w)(hT:jZ G.terms.length (Gr.top G+1) (aD G) (aK G) (gB G))(bF:Bt.jA w)(h0:0<w.heap.size)(hTs:G.terms.length<=1000)
  (hp:w.cell? ⟨p,1,none⟩=some (.int .i64 (G.terms.length:Int))) (L:List Int) (a:Option Addr) (c:Nat) (hR:Sep.Reads a (aN L) w) (hl:L.length<=1000) (hc:L.length<=c) (hL:∀x∈L,x<=9223372036854775807):
  Calls Tryz.prog 136 #[.pointer (some ⟨p,0,none⟩),.slice a L.length c,vS] w (zMW G L w):=by
 have LI:=af (fun w1 (b:Below w.heap.size w w1) (X:List Int) a1 c1 hr hx=>Fi.zQg w1 (hS.went b) (fun _=>hT) (bF.below b h0) (by omega) X a1 c1 hr hx);have SE:=af (fun w1 (b:Below w.heap.size w w1) (X:List Int) a1 c1 hr hx hb=>Ol G.terms.length p X a1 c1 w1 hTs (cell_later b hp) hr hx hb);have RD:=af (fun w1 (b:Below w.heap.size w w1)=>Sep.Reads.below hR b (Nat.le_refl _));have FI:=af hL;obtain⟨i0,hj,hz0,hz1,K9⟩:=info_parts zNa;clear hS hT bF hp hR hL;go_enter Tryz.func136,Tryz.ntmps136;go_wp2;go_loopw [7,13] (fun v t wr=>∃(j:Nat) (tP tD:Nat->Nat) (av:Option Addr) (cv:Nat),t=.int .i64 j/\j<=L.length/\v=.slice av j cv/\nY G L w.heap.size tP tD j v wr/\Below w.heap.size w wr) (fun _ t _=>L.length-(intOf t).toNat)
 case atStart=>exact⟨0,fun _=>0,fun _=>0,none,0,rfl,Nat.zero_le _,rfl,nY.nil _ _ _ _ _ _,.refl _ _⟩
 case round=>
  obtain⟨j,tP,tD,av,cv,rfl,iU,rfl,hV,hB⟩:=hrel;have V:=af hV;have B:=af hB;clear hV hB
  by_cases hlt:j<L.length
  ·obtain⟨a1,c1,e1,t1,t2⟩:=zRo (RD.out wr B.out) (k:=j+1) (by omega) hc;have hwr:IntKind.i64.wrap ((j:Int)+1)=(j:Int)+1:=IntWalk.i64_in _ (by omega);rw[show((j+1:Nat):Int)=(j:Int)+1 by omega]at e1;have Rk:(L.drop (j+1)).length<=1000:=by rw[List.length_drop];omega
   have hcc:=Fi.XK (dz (aD G) (aK G) (L.drop (j+1))) (G.terms.length+1)
   have hx1:=af (show∀t∈Fi.jo (dz (aD G) (aK G) (L.drop (j+1))) (G.terms.length+1),t<=9223372036854775807 from fun t ht=>by
    have:=(Fi.zX.1 ht).2.1
    omega)
   have TI:=af (zVo G L j);have QN:=af (LI.out wr B.out (L.drop (j+1)) a1 c1 t1 ⟨fun x hx=>FI.out x (List.mem_of_mem_drop hx),by omega,t2⟩);have hEE:=af (show(!false&&bC (aD G) (L.drop (j+1)))=pz G L j from rfl);rw[hEE.out]at QN;generalize (L.drop (j+1)).length=dl at*;generalize hUU:Fi.jo (dz (aD G) (aK G) (L.drop (j+1))) (G.terms.length+1)=UU at*;have SN:=af (fun(P D:Nat) (w1 w2:World) (v':Value) h1 h2 h3 h4 h5 h6 h7=>V.out.snoc (P:=P) (D:=D) (w1:=w1) (w2:=w2) (v':=v') h1 h2 h3 h4 B.out.size h5 h6 h7);have VR:=af V.out.row;have J9:=B.out.size;clear t1 t2 V;generalize hte:pz G L j=te at*;generalize hro:((List.range j).flatMap fun d=>py (tP d,pz G L d))=ro at*
   go_wp2_with (first
    |(go_at_call 163;(with_reducible refine(QN.out).mono ?_);rintro e w2 ⟨a2,c2,rfl,r2,_,b2⟩;have B2:=af (Gr.step B.out b2);have O6:=af b2;have S2:=af (SE.out w2 B2.out UU a2 c2 r2 (by omega) hx1.out);clear r2 b2)
    |(go_at_call 140;(with_reducible refine(S2.out).mono ?_);rintro e w3 ⟨P3,D3,rfl,hP3,JP,hs3,b3⟩;have B3:=af (Gr.step O6.out b3);have hz2:=O6.out.size;have hz3:=b3.size;have TS:=af hs3;have VX:=af (Sep.bS VR.out fun g hg=>(Gr.step B3.out (boxed w3 (.cells #[.pointer (some ⟨P3,0,none⟩),.bool te] 212))).block g (VR.out.lt g hg).2);have ON:=af (zRv 212 w.heap.size P3 w3.heap.size te w3 rfl (by omega));have hsx:(w3.alloc (.cells #[.pointer (some ⟨P3,0,none⟩),.bool te] 212)).heap.size=w3.heap.size+1:=(by simp);clear hs3 b3)
    | (at_builtin;refine lL _ rfl _ _ 206 rfl w.heap.size 212 i0 (.agg #[.pointer none,.bool false]) 2 16 Tryz.underlying206 hj hz0 hz1 K9 rfl (by decide) (.slice av j cv) j ro rfl VX.out w.heap.size _ 1 (py (P3,te)) rfl ON.out (by simp[py,Value.oneCell']) (by unfold maxLen;omega) (by omega) (by omega) ?_;intro v' w' hown hg hloc;have V4:=af (SN.out P3 D3 _ w' v' (by omega) (by omega) (by have:=(TS.out.below (boxed w3 (.cells #[.pointer (some ⟨P3,0,none⟩),.bool te] 212)) TS.out.inp TS.out.ind);rw[TI.out]at this;exact this) (Gr.step B3.out (boxed _ _)) hown hg hloc);have W4:=af (yl (m:=w.heap.size) hg (by omega) fun k hk=>(VR.out.lt k hk).1);obtain⟨a7,c7,rfl⟩:=Rw.cu hown;clear hown hg hloc))
   go_roundw
   case rel=>exact⟨j+1,_,_,a7,c7,by go_num,by omega,rfl,V4.out,(Gr.step B.out (Gr.step B3.out (boxed _ _))).trans W4.out⟩
   case measure=>simp[intOf];omega
  ·have hE:j=L.length:=by omega
   subst hE;go_wp2;go_ret;exact⟨tP,tD,av,cv,rfl,V.out,B.out⟩
end Lk
namespace Lk
open Gr (ai aN ax top)
open Im
open Au
open Rw (Bk)
inductive Lr:Type
 |no:Lr
 |box:Lr
 |bb:Lr
 |zG:Lr
 |x8:Nat->Lr
 |zI:Lr
 |fix:Lr
structure Rd where
 bB:Nat
 cB:Nat
 rv:Value
 tv:Value
 LV:Nat->Value
 aR:Nat->Option Addr
 cR:Nat->Nat
 TV:Nat->Value
 tP:Nat->Nat->Nat
 tD:Nat->Nat->Nat
def rb(aS:Option Addr)(n cS:Nat)(G:ai)(mb:Nat)(D:Rd):Array Value:=#[.slice aS n cS,.int .i64 (G.terms.length:Int),D.rv,.slice (some ⟨D.bB,0,none⟩) (top G+1) D.cB,D.tv,.slice none 0 0,.map (some mb),.slice none 0 0]
def pS(G:ai)(D:Rd)(k:Nat):List Value:=[.int .i64 (ax G (k:Int)).1,.slice (D.aR k) (ax G (k:Int)).2.length (D.cR k)]
theorem Ux(G:ai)(D:Rd)(k:Nat):(pS G D k).length=2:=rfl
structure RP (w0:World) (p mb:Nat) (G:ai) (aS:Option Addr) (n cS:Nat) (jr jl jt:Nat) (D:Rd) (lab:Nat->Lr) (w:World):Prop where
 fr:Sep.Fr (fun b=>b=p\/b=D.bB) w0 w
 box:Bk p (rb aS n cS G mb D) 177 w
 nA:w.ownsRow w0.heap.size 55 2 D.rv jr ((List.range jr).flatMap (pS G D))
 kU:∀k,k<jr->Sep.Reads (D.aR k) (aN (ax G (k:Int)).2) w
 ny:∀k,k<jr->(ax G (k:Int)).2≠[]->∀b o,D.aR k=some ⟨b,o,none⟩->lab b=.fix
 ov:∀s,s<=top G->w.cell? ⟨D.bB,s,none⟩=some (D.LV s)
 vL:∀s,w.frozen? ⟨D.bB,s,none⟩=false
 pq:∀s,s<=top G->w.ownsRow w0.heap.size 3 1 (D.LV s) (dm G (s:Int) jl).length (bD (dm G (s:Int) jl))
 nD:w.ownsRow w0.heap.size 206 1 D.tv jt ((List.range jt).map D.TV)
 tails:∀k,k<jt->∃a c,D.TV k=.slice a (ax G (k:Int)).2.length c/\nY G (ax G (k:Int)).2 w0.heap.size (D.tP k) (D.tD k) (ax G (k:Int)).2.length (D.TV k) w
 fW:∀k,k<jt->(∀g,(D.TV k).ownBlock=some g->lab g=.fix)/\∀d,d<(ax G (k:Int)).2.length->lab (D.tP k d)=.fix/\lab (D.tD k d)=.fix
 lp:lab p=.box
 lb:lab D.bB=.bb
 lr:∀g,D.rv.ownBlock=some g->lab g=.zG
 ll:∀s,s<=top G->∀g,(D.LV s).ownBlock=some g->lab g=.x8 s
 lt:∀g,D.tv.ownBlock=some g->lab g=.zI
 low:∀b,lab b≠.no->b=p\/b=D.bB\/w0.heap.size<=b
 bK:∀b,lab b≠.no->b<w.heap.size
section
variable {w0:World} {p mb:Nat} {G:ai} {aS:Option Addr} {n cS:Nat} {jr jl jt:Nat} {D E:Rd} {lab aJ:Nat->Lr} {w w':World} {ch:Lr->Prop}
abbrev Cr(ch:Lr->Prop)(lab:Nat->Lr)(w w':World):Prop:=Sep.Fr (fun b=>ch (lab b)) w w'
theorem RP.bk(h:RP w0 p mb G aS n cS jr jl jt D lab w){b:Nat}{L:Lr}(e:lab b=L)(hn:L≠.no):b<w.heap.size:=h.bK b (e▸hn)
theorem RP.keep(h:RP w0 p mb G aS n cS jr jl jt D lab w)(f:Cr ch lab w w'){b:Nat}{L:Lr}(e:lab b=L)(hn:L≠.no)(hc:¬ch L):w'.heap[b]?=w.heap[b]?:=f.block b (h.bk e hn) (by rw[e];exact hc)
theorem RP.fr'(h:RP w0 p mb G aS n cS jr jl jt D lab w)(f:Cr ch lab w w')(hc:¬ch .no):Sep.Fr (fun b=>b=p\/b=D.bB) w0 w':=
 ⟨f.os.trans h.fr.os,f.tape.trans h.fr.tape,f.output.trans h.fr.output,Nat.le_trans h.fr.size f.size,fun b hb hp=>by
  have hl:lab b=.no:=by
   cases e:lab b with
   |no=>rfl
   |_=>
    exfalso
    rcases h.low b (by rw[e];intro h;cases h)with r|r|r
    ·exact hp (.inl r)
    ·exact hp (.inr r)
    ·omega
  rw[f.block b (Nat.lt_of_lt_of_le hb h.fr.size) (by rw[hl];exact hc)]
  exact h.fr.block b hb hp⟩
theorem RP.fC(h:RP w0 p mb G aS n cS jr jl jt D lab w)(f:Cr ch lab w w')(hc:¬ch .box):Bk p (rb aS n cS G mb D) 177 w':=(h.keep f h.lp (by intro h;cases h) hc).trans h.box
theorem RP.qZ(h:RP w0 p mb G aS n cS jr jl jt D lab w)(f:Cr ch lab w w')(hc:¬ch .zG):w'.ownsRow w0.heap.size 55 2 D.rv jr ((List.range jr).flatMap (pS G D)):=Sep.bS h.nA fun g hg=>h.keep f (h.lr g hg) (by intro h;cases h) hc
theorem RP.iK(h:RP w0 p mb G aS n cS jr jl jt D lab w)(f:Cr ch lab w w')(hc:¬ch .fix){k:Nat}(hk:k<jr):Sep.Reads (D.aR k) (aN (ax G (k:Int)).2) w':=by
 by_cases hn:(ax G (k:Int)).2=[]
 ·rw[hn];exact .nil _ _
 ·exact(h.kU k hk).keep fun b o e=>h.keep f (h.ny k hk hn b o e) (by intro h;cases h) hc
theorem RP.gT(h:RP w0 p mb G aS n cS jr jl jt D lab w)(f:Cr ch lab w w')(hc:¬ch .bb){s:Nat}(hs:s<=top G):w'.cell? ⟨D.bB,s,none⟩=some (D.LV s):=(World.cell?_of_block (a:=⟨D.bB,s,none⟩) (h.keep f h.lb (by intro h;cases h) hc)).trans (h.ov s hs)
theorem RP.i6(h:RP w0 p mb G aS n cS jr jl jt D lab w)(f:Cr ch lab w w')(hc:¬ch .bb)(s:Nat):w'.frozen? ⟨D.bB,s,none⟩=false:=(World.frozen?_of_block (a:=⟨D.bB,s,none⟩) (h.keep f h.lb (by intro h;cases h) hc)).trans (h.vL s)
theorem RP.oz(h:RP w0 p mb G aS n cS jr jl jt D lab w)(f:Cr ch lab w w'){s:Nat}(hs:s<=top G)(hc:¬ch (.x8 s)):w'.ownsRow w0.heap.size 3 1 (D.LV s) (dm G (s:Int) jl).length (bD (dm G (s:Int) jl)):=Sep.bS (h.pq s hs) fun g hg=>h.keep f (h.ll s hs g hg) (by intro h;cases h) hc
theorem RP.ru(h:RP w0 p mb G aS n cS jr jl jt D lab w)(f:Cr ch lab w w')(hc:¬ch .zI):w'.ownsRow w0.heap.size 206 1 D.tv jt ((List.range jt).map D.TV):=Sep.bS h.nD fun g hg=>h.keep f (h.lt g hg) (by intro h;cases h) hc
theorem RP.lf(h:RP w0 p mb G aS n cS jr jl jt D lab w)(f:Cr ch lab w w')(hc:¬ch .fix){k:Nat}(hk:k<jt):∃a c,D.TV k=.slice a (ax G (k:Int)).2.length c/\nY G (ax G (k:Int)).2 w0.heap.size (D.tP k) (D.tD k) (ax G (k:Int)).2.length (D.TV k) w':=by
 obtain⟨a,c,e,t⟩:=h.tails k hk;obtain⟨l1,l2⟩:=h.fW k hk;refine⟨a,c,e,Sep.bS t.row fun g hg=>h.keep f (l1 g hg) (by intro h;cases h) hc,fun d hd=>?_,t.low,t.off⟩;exact(t.sets d hd).keep f.size (h.keep f (l2 d hd).1 (by intro h;cases h) hc) (h.keep f (l2 d hd).2 (by intro h;cases h) hc)
theorem RP.went(h:RP w0 p mb G aS n cS jr jl jt D lab w)(hb:Below w.heap.size w w'):RP w0 p mb G aS n cS jr jl jt D lab w':=by
 have f:Cr (fun _=>False) lab w w':=.of_below hb;exact⟨h.fr' f id,h.fC f id,h.qZ f id,fun k hk=>h.iK f id hk,h.ny,fun s hs=>h.gT f id hs,fun s=>h.i6 f id s,fun s hs=>h.oz f hs id,h.ru f id,fun k hk=>h.lf f id hk,h.fW,h.lp,h.lb,h.lr,h.ll,h.lt,h.low,fun b hn=>Nat.lt_of_lt_of_le (h.bK b hn) hb.size⟩
theorem RP.old(h:RP w0 p mb G aS n cS jr jl jt D lab w)(ag:∀b,b<w.heap.size->aJ b=lab b){b:Nat}{L:Lr}(e:lab b=L)(hn:L≠.no):aJ b=L:=(ag b (h.bk e hn)).trans e
def Lq(lab:Nat->Lr)(g:Nat)(L:Lr):Nat->Lr:=fun b=>if b=g then L else lab b
theorem zTm(lab:Nat->Lr)(g:Nat)(L:Lr):Lq lab g L g=L:=if_pos rfl
theorem N0{lab:Nat->Lr}{g b:Nat}{L:Lr}(h:b≠g):Lq lab g L b=lab b:=if_neg h
theorem RP.kV(h:RP w0 p mb G aS n cS jr jl jt D lab w){L:Lr}{v v':Value}(hL:∀g,v.ownBlock=some g->lab g=L)(JX:L≠.no){w1 w2:World}(hb:w.heap.size<=w1.heap.size)(hg:w1.heap.size<=w2.heap.size)(hv':∀g,v'.ownBlock=some g->g<w2.heap.size)(hv:v'.ownBlock=v.ownBlock\/v'.ownBlock=some w1.heap.size):
  ∃aJ:Nat->Lr,(∀b,v'.ownBlock=some b->aJ b=L)/\(∀b,b<w.heap.size->aJ b=lab b)/\(∀b,b<w1.heap.size->aJ b=lab b)/\∀b,aJ b≠.no->b<w2.heap.size:=by
 rcases hv with r|r
 ·exact⟨lab,fun b e=>hL b (r.symm.trans e),fun _ _=>rfl,fun _ _=>rfl,fun b hb3=>Nat.lt_of_lt_of_le (h.bK b hb3) (Nat.le_trans hb hg)⟩
 ·refine⟨Lq lab w1.heap.size L,fun b e=>?_,fun b hb3=>N0 (by omega),fun b hb3=>N0 (by omega),fun b hb3=>?_⟩
  ·have e2:=r.symm.trans e;injection e2 with e2
   rw[←e2];exact zTm _ _ _
  ·by_cases e:b=w1.heap.size
   ·exact e▸hv' _ r
   ·rw[N0 e]at hb3;exact Nat.lt_of_lt_of_le (h.bK b hb3) (Nat.le_trans hb hg)
theorem RP.turn(h:RP w0 p mb G aS n cS jr jl jt D lab w)(f:Cr ch lab w w')(hno:¬ch .no)(ag:∀b,b<w.heap.size->aJ b=lab b)(hin:∀b,aJ b≠.no->b<w'.heap.size):Sep.Fr (fun b=>b=p\/b=D.bB) w0 w'/\aJ p=.box/\aJ D.bB=.bb/\(∀b,aJ b≠.no->b=p\/b=D.bB\/w0.heap.size<=b):=by
 refine⟨h.fr' f hno,h.old ag h.lp (by intro e;cases e),h.old ag h.lb (by intro e;cases e),fun b hb=>?_⟩
 by_cases hl:b<w.heap.size
 ·rw[ag b hl]at hb;exact h.low b hb
 ·have:=h.fr.size;exact .inr (.inr (by omega))
theorem zVh(aS:Option Addr)(n cS:Nat)(G:ai)(mb:Nat)(D:Rd)(u:Value):(rb aS n cS G mb D).setIfInBounds 2 u=rb aS n cS G mb {D with rv:=u}:=by simp[rb]
theorem zVi(aS:Option Addr)(n cS:Nat)(G:ai)(mb:Nat)(D:Rd)(u:Value):(rb aS n cS G mb D).setIfInBounds 4 u=rb aS n cS G mb {D with tv:=u}:=by simp[rb]
theorem Ye(aS:Option Addr)(n cS:Nat)(G:ai)(mb:Nat)(D:Rd):(rb aS n cS G mb D).size=8:=rfl
theorem RP.rule(h:RP w0 p mb G aS n cS jr jl jt D lab w){a:Option Addr}{c:Nat}(hr:Sep.Reads a (aN (ax G (jr:Int)).2) w)(ha:(ax G (jr:Int)).2≠[]->∀b o,a=some ⟨b,o,none⟩->lab b=.fix){w1 w2:World}(hb:Below w.heap.size w w1){v':Value}
  (hown:w2.ownsRow w0.heap.size 55 2 v' (jr+1) (((List.range jr).flatMap (pS G D))++[.int .i64 (ax G (jr:Int)).1,.slice a (ax G (jr:Int)).2.length c])) (hg:w1.grownBy w2 D.rv.ownBlock) (hv:v'.ownBlock=D.rv.ownBlock\/v'.ownBlock=some w1.heap.size):
  ∃aJ,RP w0 p mb G aS n cS (jr+1) jl jt {D with rv:=v',aR:=upd D.aR jr a,cR:=upd D.cR jr c} aJ (w2.setCell ⟨p,2,none⟩ v')/\(∀b,b<w.heap.size->aJ b=lab b)/\Sep.Fr (fun b=>lab b≠.no) w (w2.setCell ⟨p,2,none⟩ v'):=by
 have f2:Cr (fun L=>L=Lr.zG) lab w w2:=Sep.Fr.grown (Sep.Fr.of_below hb) hg fun b e=> .inl (h.lr b e)
 have f:Cr (fun L=>L=Lr.zG\/L=Lr.box) lab w (w2.setCell ⟨p,2,none⟩ v'):=Sep.Fr.setCell (S:=fun b=>lab b=.zG\/lab b=.box) (f2.mono fun b e=> .inl e) _ (.inr h.lp) _;have hs:(w2.setCell ⟨p,2,none⟩ v').heap.size=w2.heap.size:=by simp[World.setCell]
 obtain⟨aJ,hl',ag,_,hin⟩:=h.kV h.lr (by intro e;cases e) hb.size hg.size (fun g e=>(hown.lt g e).2) hv;obtain⟨t1,t2,t3,t4⟩:=h.turn f (by rintro(e|e)<;>cases e) ag (fun b hb3=>by rw[hs];exact hin b hb3)
 have j6:v'.ownBlock≠some p:=fun e=>by
  have:=hl' p e;rw[t2]at this;cases this
 refine⟨aJ,⟨t1,?_,?_,fun k hk=>?_,fun k hk hn b o e=>?_,fun s hsl=>h.gT f (by rintro(e|e)<;>cases e) hsl,fun s=>h.i6 f (by rintro(e|e)<;>cases e) s,fun s hsl=>h.oz f hsl (by rintro(e|e)<;>cases e),h.ru f (by rintro(e|e)<;>cases e),fun k hk=>h.lf f (by rintro(e|e)<;>cases e) hk,fun k hk=>⟨fun g e=>h.old ag ((h.fW k hk).1 g e) (by intro e;cases e),fun d hd=>⟨h.old ag ((h.fW k hk).2 d hd).1 (by intro e;cases e),h.old ag ((h.fW k hk).2 d hd).2 (by intro e;cases e)⟩⟩,t2,t3,hl',fun s hsl g e=>h.old ag (h.ll s hsl g e) (by intro e;cases e),fun g e=>h.old ag (h.lt g e) (by intro e;cases e),t4,fun b hb3=>by rw[hs];exact hin b hb3⟩,ag,f.mono fun b hb3 e=>by rw[e]at hb3;rcases hb3 with e2|e2<;>cases e2⟩
 ·have hx:=(h.fC f2 (by intro e;cases e)).set (j:=2) (by rw[Ye];omega) v';rw[zVh]at hx;exact hx
 ·have e:((List.range (jr+1)).flatMap (pS G {D with rv:=v',aR:=upd D.aR jr a,cR:=upd D.cR jr c}))=((List.range jr).flatMap (pS G D))++[.int .i64 (ax G (jr:Int)).1,.slice a (ax G (jr:Int)).2.length c]:=by
   rw[List.range_succ,List.flatMap_append]
   congr 1
   ·refine Mp fun k hk=>?_
    have:=List.mem_range.1 hk;show[_,Value.slice (upd D.aR jr a k) _ (upd D.cR jr c k)]= _;rw[bu (by omega),bu (by omega)]
    rfl
   ·show[_,Value.slice (upd D.aR jr a jr) _ (upd D.cR jr c jr)]++[]= _;rw[upd_same,upd_same]
    rfl
  rw[e];exact Sep.bS hown fun b hb3=>Below.heap_setCell _ _ _ _ fun e2=>j6 (hb3.trans (congrArg some e2))
 ·show Sep.Reads (upd D.aR jr a k) _ _
  by_cases e:k=jr
  ·subst e;rw[upd_same]
   by_cases hn:(ax G (k:Int)).2=[]
   ·rw[hn];exact .nil _ _
   ·exact hr.keep fun b o e2=>h.keep f (ha hn b o e2) (by intro e;cases e) (by rintro(e|e)<;>cases e)
  ·rw[bu e];exact h.iK f (by rintro(e|e)<;>cases e) (by omega)
 ·have e':upd D.aR jr a k=some ⟨b,o,none⟩:=e
  by_cases ek:k=jr
  ·subst ek;rw[upd_same]at e';exact h.old ag (ha hn b o e') (by intro e;cases e)
  ·rw[bu ek]at e';exact h.old ag (h.ny k (by omega) hn b o e') (by intro e;cases e)
theorem RP.left(h:RP w0 p mb G aS n cS jr jl jt D lab w){s:Nat}(hs0:s<=top G)(hsl:(ax G (jl:Int)).1=(s:Int)){w1 w2:World}(hb:Below w.heap.size w w1){v':Value}
  (hown:w2.ownsRow w0.heap.size 3 1 v' ((dm G (s:Int) jl).length+1) (bD (dm G (s:Int) jl)++[.int .i64 (jl:Int)])) (hg:w1.grownBy w2 (D.LV s).ownBlock) (hv:v'.ownBlock=(D.LV s).ownBlock\/v'.ownBlock=some w1.heap.size):
  ∃aJ,RP w0 p mb G aS n cS jr (jl+1) jt {D with LV:=upd D.LV s v'} aJ (w2.setCell ⟨D.bB,s,none⟩ v')/\(∀b,b<w.heap.size->aJ b=lab b)/\Sep.Fr (fun b=>lab b≠.no) w (w2.setCell ⟨D.bB,s,none⟩ v'):=by
 have f2:Cr (fun L=>L=Lr.x8 s) lab w w2:=Sep.Fr.grown (Sep.Fr.of_below hb) hg fun b e=> .inl (h.ll s hs0 b e)
 have f:Cr (fun L=>L=Lr.x8 s\/L=Lr.bb) lab w (w2.setCell ⟨D.bB,s,none⟩ v'):=Sep.Fr.setCell (S:=fun b=>lab b=.x8 s\/lab b=.bb) (f2.mono fun b e=> .inl e) _ (.inr h.lb) _;have hs:(w2.setCell ⟨D.bB,s,none⟩ v').heap.size=w2.heap.size:=by simp[World.setCell]
 obtain⟨aJ,hl',ag,_,hin⟩:=h.kV (h.ll s hs0) (by intro e;cases e) hb.size hg.size (fun g e=>(hown.lt g e).2) hv;obtain⟨t1,t2,t3,t4⟩:=h.turn f (by rintro(e|e)<;>cases e) ag (fun b hb3=>by rw[hs];exact hin b hb3)
 have j6:v'.ownBlock≠some D.bB:=fun e=>by
  have:=hl' D.bB e;rw[t3]at this;cases this
 refine⟨aJ,⟨t1,h.fC f (by rintro(e|e)<;>cases e),h.qZ f (by rintro(e|e)<;>cases e),fun k hk=>h.iK f (by rintro(e|e)<;>cases e) hk,fun k hk hn b o e=>h.old ag (h.ny k hk hn b o e) (by intro e;cases e),fun r hr=>?_,fun r=>?_,fun r hr=>?_,h.ru f (by rintro(e|e)<;>cases e),fun k hk=>h.lf f (by rintro(e|e)<;>cases e) hk,fun k hk=>⟨fun g e=>h.old ag ((h.fW k hk).1 g e) (by intro e;cases e),fun d hd=>⟨h.old ag ((h.fW k hk).2 d hd).1 (by intro e;cases e),h.old ag ((h.fW k hk).2 d hd).2 (by intro e;cases e)⟩⟩,t2,t3,fun g e=>h.old ag (h.lr g e) (by intro e;cases e),fun r hr g e=>?_,fun g e=>h.old ag (h.lt g e) (by intro e;cases e),t4,fun b hb3=>by rw[hs];exact hin b hb3⟩,ag,f.mono fun b hb3 e=>by rw[e]at hb3;rcases hb3 with e2|e2<;>cases e2⟩
 ·show(w2.setCell ⟨D.bB,s,none⟩ v').cell? ⟨D.bB,r,none⟩=some (upd D.LV s v' r)
  by_cases e:r=s
  ·subst e;rw[upd_same];exact World.cell?_setCell_same _ _ _ (h.gT f2 (by intro e;cases e) hr)
  ·rw[bu e,World.cell?_setCell_other _ _ _ _ (fun q=>e (congrArg Addr.off q).symm)];exact h.gT f2 (by intro e;cases e) hr
 ·rw[World.frozen?_setCell];exact h.i6 f2 (by intro e;cases e) r
 ·show(w2.setCell ⟨D.bB,s,none⟩ v').ownsRow _ _ 1 (upd D.LV s v' r) (dm G (r:Int) (jl+1)).length (bD (dm G (r:Int) (jl+1)))
  by_cases e:r=s
  ·subst e;rw[upd_same,zPo hsl,List.length_append,show bD (dm G (r:Int) jl++[jl])=bD (dm G (r:Int) jl)++[.int .i64 (jl:Int)]by simp[bD]];exact Sep.bS hown fun b hb3=>Below.heap_setCell _ _ _ _ fun e2=>j6 (hb3.trans (congrArg some e2))
  ·rw[bu e,zMj (by rw[hsl];omega)];exact h.oz f hr (fun e2=>e2.elim (fun e2=>by injection e2 with e2;exact e e2) (fun e2=>by cases e2))
 ·have e':(upd D.LV s v' r).ownBlock=some g:=e
  by_cases er:r=s
  ·subst er;rw[upd_same]at e';exact hl' g e'
  ·rw[bu er]at e';exact h.old ag (h.ll r hr g e') (by intro e;cases e)
theorem RP.tail(h:RP w0 p mb G aS n cS jr jl jt D lab w){tP tD:Nat->Nat}{a:Option Addr}{c:Nat}(ht:nY G (ax G (jt:Int)).2 w0.heap.size tP tD (ax G (jt:Int)).2.length (.slice a (ax G (jt:Int)).2.length c) w)(h1:∀g,(Value.slice a (ax G (jt:Int)).2.length c).ownBlock=some g->lab g=.fix)(h2:∀d,d<(ax G (jt:Int)).2.length->lab (tP d)=.fix/\lab (tD d)=.fix)
  {w1 w2:World} (hb:Below w.heap.size w w1) {v':Value} (hown:w2.ownsRow w0.heap.size 206 1 v' (jt+1) (((List.range jt).map D.TV)++[.slice a (ax G (jt:Int)).2.length c])) (hg:w1.grownBy w2 D.tv.ownBlock) (hv:v'.ownBlock=D.tv.ownBlock\/v'.ownBlock=some w1.heap.size):
  ∃aJ,RP w0 p mb G aS n cS jr jl (jt+1) {D with tv:=v',TV:=upd D.TV jt (.slice a (ax G (jt:Int)).2.length c),tP:=upd D.tP jt tP,tD:=upd D.tD jt tD} aJ (w2.setCell ⟨p,4,none⟩ v')/\(∀b,b<w.heap.size->aJ b=lab b)/\Sep.Fr (fun b=>lab b≠.no) w (w2.setCell ⟨p,4,none⟩ v'):=by
 have f2:Cr (fun L=>L=Lr.zI) lab w w2:=Sep.Fr.grown (Sep.Fr.of_below hb) hg fun b e=> .inl (h.lt b e)
 have f:Cr (fun L=>L=Lr.zI\/L=Lr.box) lab w (w2.setCell ⟨p,4,none⟩ v'):=Sep.Fr.setCell (S:=fun b=>lab b=.zI\/lab b=.box) (f2.mono fun b e=> .inl e) _ (.inr h.lp) _;have hs:(w2.setCell ⟨p,4,none⟩ v').heap.size=w2.heap.size:=by simp[World.setCell]
 obtain⟨aJ,hl',ag,_,hin⟩:=h.kV h.lt (by intro e;cases e) hb.size hg.size (fun g e=>(hown.lt g e).2) hv;obtain⟨t1,t2,t3,t4⟩:=h.turn f (by rintro(e|e)<;>cases e) ag (fun b hb3=>by rw[hs];exact hin b hb3)
 have j6:v'.ownBlock≠some p:=fun e=>by
  have:=hl' p e;rw[t2]at this;cases this
 refine⟨aJ,⟨t1,?_,h.qZ f (by rintro(e|e)<;>cases e),fun k hk=>h.iK f (by rintro(e|e)<;>cases e) hk,fun k hk hn b o e=>h.old ag (h.ny k hk hn b o e) (by intro e;cases e),fun s hsl=>h.gT f (by rintro(e|e)<;>cases e) hsl,fun s=>h.i6 f (by rintro(e|e)<;>cases e) s,fun s hsl=>h.oz f hsl (by rintro(e|e)<;>cases e),?_,fun k hk=>?_,fun k hk=>?_,t2,t3,fun g e=>h.old ag (h.lr g e) (by intro e;cases e),fun s hsl g e=>h.old ag (h.ll s hsl g e) (by intro e;cases e),hl',t4,fun b hb3=>by rw[hs];exact hin b hb3⟩,ag,f.mono fun b hb3 e=>by rw[e]at hb3;rcases hb3 with e2|e2<;>cases e2⟩
 ·have hx:=(h.fC f2 (by intro e;cases e)).set (j:=4) (by rw[Ye];omega) v';rw[zVi]at hx;exact hx
 ·show(w2.setCell ⟨p,4,none⟩ v').ownsRow _ _ 1 v' (jt+1) ((List.range (jt+1)).map (upd D.TV jt (.slice a (ax G (jt:Int)).2.length c)))
  have e:(List.range (jt+1)).map (upd D.TV jt (.slice a (ax G (jt:Int)).2.length c))=(List.range jt).map D.TV++[.slice a (ax G (jt:Int)).2.length c]:=by
   rw[List.range_succ,List.map_append]
   congr 1
   ·refine List.map_congr_left fun k hk=>?_
    have:=List.mem_range.1 hk;rw[bu (by omega)]
   ·rw[List.map_singleton,upd_same]
  rw[e];exact Sep.bS hown fun b hb3=>Below.heap_setCell _ _ _ _ fun e2=>j6 (hb3.trans (congrArg some e2))
 ·show∃a' c',upd D.TV jt _ k= _/\nY G _ _ (upd D.tP jt tP k) (upd D.tD jt tD k) _ (upd D.TV jt _ k) _
  by_cases e:k=jt
  ·subst e;rw[upd_same,upd_same,upd_same];refine⟨a,c,rfl,Sep.bS ht.row fun g hg=>h.keep f (h1 g hg) (by intro h;cases h) (by rintro(e|e)<;>cases e),fun d hd=>?_,ht.low,ht.off⟩;exact(ht.sets d hd).keep f.size (h.keep f (h2 d hd).1 (by intro h;cases h) (by rintro(e|e)<;>cases e)) (h.keep f (h2 d hd).2 (by intro h;cases h) (by rintro(e|e)<;>cases e))
  ·rw[bu e,bu e,bu e];exact h.lf f (by rintro(e|e)<;>cases e) (by omega)
 ·show(∀g,(upd D.TV jt _ k).ownBlock=some g->aJ g=.fix)/\∀d,d<_->aJ (upd D.tP jt tP k d)=.fix/\aJ (upd D.tD jt tD k d)=.fix
  by_cases e:k=jt
  ·subst e;rw[upd_same,upd_same,upd_same];exact⟨fun g e=>h.old ag (h1 g e) (by intro e;cases e),fun d hd=>⟨h.old ag (h2 d hd).1 (by intro e;cases e),h.old ag (h2 d hd).2 (by intro e;cases e)⟩⟩
  ·rw[bu e,bu e,bu e];have hk':k<jt:=by omega
   exact⟨fun g e=>h.old ag ((h.fW k hk').1 g e) (by intro e;cases e),fun d hd=>⟨h.old ag ((h.fW k hk').2 d hd).1 (by intro e;cases e),h.old ag ((h.fW k hk').2 d hd).2 (by intro e;cases e)⟩⟩
theorem RP.vQ(h:RP w0 p mb G aS n cS jr jl jt D lab w){B:Nat->Prop}(hB:∀b,B b->lab b=.no/\b<w.heap.size/\w0.heap.size<=b):
  ∃aJ,RP w0 p mb G aS n cS jr jl jt D aJ w/\(∀b,B b->aJ b=.fix)/\∀b,¬B b->aJ b=lab b:=by
 classical
 have old:∀b L,lab b=L->L≠.no->(if B b then Lr.fix else lab b)=L:=fun b L e hn=>by
  by_cases hb:B b
  ·exact absurd (e.symm.trans (hB b hb).1) hn
  ·rw[if_neg hb];exact e
 refine⟨fun b=>if B b then .fix else lab b,⟨h.fr,h.box,h.nA,h.kU,fun k hk hn b o e=>old _ _ (h.ny k hk hn b o e) (by intro e;cases e),h.ov,h.vL,h.pq,h.nD,h.tails,fun k hk=>⟨fun g e=>old _ _ ((h.fW k hk).1 g e) (by intro e;cases e),fun d hd=>⟨old _ _ ((h.fW k hk).2 d hd).1 (by intro e;cases e),old _ _ ((h.fW k hk).2 d hd).2 (by intro e;cases e)⟩⟩,old _ _ h.lp (by intro e;cases e),old _ _ h.lb (by intro e;cases e),fun g e=>old _ _ (h.lr g e) (by intro e;cases e),fun s hs g e=>old _ _ (h.ll s hs g e) (by intro e;cases e),fun g e=>old _ _ (h.lt g e) (by intro e;cases e),fun b hb=>?_,fun b hb=>?_⟩,fun b hb=>if_pos hb,fun b hb=>if_neg hb⟩
 ·by_cases e:B b
  ·exact .inr (.inr (hB b e).2.2)
  ·rw[if_neg e]at hb;exact h.low b hb
 ·by_cases e:B b
  ·exact(hB b e).2.1
  ·rw[if_neg e]at hb;exact h.bK b hb
end
end Lk
namespace Lk
open Gr (ai aN ax top checkN)
open Im
open Au
open Fi (VS cP rm tv)
open Rw (Bk)
def Qf(Z:Nat->Prop)(w:World):Prop:=∀b,Z b->∃a n c,w.cell? ⟨b,0,none⟩=some (.slice a n c)
theorem cP.fr{I}{P D}{p q1 q2 t n}{V}{w w'}{Z}(h:cP I P D p q1 q2 t n V w)(hZ:Qf Z w)(f:Sep.Fr Z w w'):cP I P D p q1 q2 t n V w':=by
 have ne:∀b v,w.cell? ⟨b,0,none⟩=some v->(∀a n c,v≠.slice a n c)->¬Z b:=fun b v hc hv hb=>by
  obtain⟨a,n,c,e⟩:=hZ b hb;rw[hc]at e;injection e with e
  exact hv _ _ _ e
 have h0:0<n:=by have:=h.tn;omega
 have hp:¬Z p:=ne p _ (h.box.cell (j:=0) rfl) (by intro a n c e;cases e);have hq1:¬Z q1:=ne q1 _ (h.bN 0 h0) (by intro a n c e;cases e)
 have hq2:¬Z q2:=by
  have:=h.follows 0 h0;refine ne q2 _ this ?_;intro a n c e;split at e<;>cases e
 refine⟨h.box.fr f hp,fun s hs=>f.cell (h.bN s hs) hq1,fun s hs=>f.cell (h.follows s hs) hq2,⟨fun k hk=>?_,h.dG.inj,h.dG.off⟩,h.off,h.ie,h.vJ,h.ig,h.tn,h.n4⟩;have s:=h.dG.at_ k hk
 have hrm:0<Bt.sz (rm t n k):=by
  have:1<=rm t n k:=by
   unfold rm;split<;>omega
  unfold Bt.sz;omega
 refine s.keep f.size (f.block _ s.inp (ne _ _ s.room (by intro a n c e;cases e))) (f.block _ s.ind (ne _ _ (s.holds 0 hrm) (by intro a n c e;cases e)))
theorem VS.fr{nl}{I}{P D}{v}{t n}{C}{F B}{O}{w w'}{Z}(h:VS nl I P D v t n C F B O w)(hZ:Qf Z w)(f:Sep.Fr Z w w'):VS nl I P D v t n C F B O w':=by
 rcases h with h|⟨h1,p,q1,q2,h2,h3⟩
 ·exact .inl h
 ·exact .inr ⟨h1,p,q1,q2,h2,cP.fr h3 hZ f⟩
def Gq(bB cB:Nat):Rd:=⟨bB,cB,.slice none 0 0,.slice none 0 0,fun _=> .slice none 0 0,fun _=>none,fun _=>0,fun _=> .slice none 0 0,fun _ _=>0,fun _ _=>0⟩
theorem RP.start{w0}{p mb bB cB}{G}{aS}{n cS}(hb:Bk p (rb aS n cS G mb (Gq bB cB)) 177 w0)(hB:Bk bB (madeCells #[.slice none 0 0] (top G+1)) 29 w0)(hne:bB≠p):
  ∃lab,RP w0 p mb G aS n cS 0 0 0 (Gq bB cB) lab w0:=by
 have nl:∀g,(Value.slice none 0 0).ownBlock=some g->False:=fun g e=>by simp[Value.ownBlock]at e
 refine⟨fun b=>if b=p then .box else if b=bB then .bb else .no,.refl _ _,hb,World.ownsRow_nil _ _ _ _,fun k hk=>absurd hk (Nat.not_lt_zero k),fun k hk=>absurd hk (Nat.not_lt_zero k),fun s hs=>hB.cell (Np _ s (by omega) _),fun s=>hB.free s,fun s hs=>World.ownsRow_nil _ _ _ _,World.ownsRow_nil _ _ _ _,fun k hk=>absurd hk (Nat.not_lt_zero k),fun k hk=>absurd hk (Nat.not_lt_zero k),if_pos rfl,?_,fun g e=>(nl g e).elim,fun s _ g e=>(nl g e).elim,fun g e=>(nl g e).elim,fun b e=>?_,fun b e=>?_⟩
 ·show(if bB=p then Lr.box else if bB=bB then Lr.bb else Lr.no)=.bb;rw[if_neg hne,if_pos rfl]
 ·by_cases h1:b=p
  ·exact .inl h1
  ·by_cases h2:b=bB
   ·exact .inr (.inl h2)
   ·rw[if_neg h1,if_neg h2]at e;exact absurd rfl e
 ·by_cases h1:b=p
  ·exact h1▸hb.lt
  ·by_cases h2:b=bB
   ·exact h2▸hB.lt
   ·rw[if_neg h1,if_neg h2]at e;exact absurd rfl e
section
variable {w0:World} {p mb:Nat} {G:ai} {aS:Option Addr} {n cS:Nat} {jr jl jt:Nat} {D:Rd} {lab:Nat->Lr} {w w1 w2:World}
theorem RP.rf(h:RP w0 p mb G aS n cS jr jl jt D lab w)(hb:Below w.heap.size w w1)(hg:w1.grownBy w2 D.rv.ownBlock):w2.cell? ⟨p,2,none⟩=some D.rv/\w2.frozen? ⟨p,2,none⟩=false:=by
 have f2:Cr (fun L=>L=.zG) lab w w2:=Sep.Fr.grown (Sep.Fr.of_below hb) hg fun b e=> .inl (h.lr b e)
 have hx:=h.fC f2 (by intro e;cases e);exact⟨hx.cell rfl,hx.free 2⟩
theorem RP.pn(h:RP w0 p mb G aS n cS jr jl jt D lab w){s}(hs:s<=top G)(hb:Below w.heap.size w w1)(hg:w1.grownBy w2 (D.LV s).ownBlock):w2.cell? ⟨D.bB,s,none⟩=some (D.LV s)/\w2.frozen? ⟨D.bB,s,none⟩=false:=by
 have f2:Cr (fun L=>L=.x8 s) lab w w2:=Sep.Fr.grown (Sep.Fr.of_below hb) hg fun b e=> .inl (h.ll s hs b e)
 exact⟨h.gT f2 (by intro e;cases e) hs,h.i6 f2 (by intro e;cases e) s⟩
theorem RP.rq(h:RP w0 p mb G aS n cS jr jl jt D lab w)(hb:Below w.heap.size w w1)(hg:w1.grownBy w2 D.tv.ownBlock):w2.cell? ⟨p,4,none⟩=some D.tv/\w2.frozen? ⟨p,4,none⟩=false:=by
 have f2:Cr (fun L=>L=.zI) lab w w2:=Sep.Fr.grown (Sep.Fr.of_below hb) hg fun b e=> .inl (h.lt b e)
 have hx:=h.fC f2 (by intro e;cases e);exact⟨hx.cell rfl,hx.free 4⟩
theorem RP.i7(h:RP w0 p mb G aS n cS jr jl jt D lab w){b}(hb:w.heap.size<=b):lab b=.no:=by
 cases e:lab b with
 |no=>rfl
 |_=>
  have:=h.bK b (by rw[e];intro e;cases e);omega
theorem zRZ{a}{L}{w}(h:Sep.Reads a (aN L) w)(hn:L≠[]){b o}(e:a=some ⟨b,o,none⟩):b<w.heap.size:=by
 cases L with
 |nil=>exact absurd rfl hn
 |cons y Y=>
  obtain⟨b',o',e',hc⟩:=h 0 (by simp[aN]);rw[e]at e';injection e' with e'
  injection e' with e1 e2
  subst e1;exact World.block_lt_of_cell? _ _ hc
end
def Dj:Nt:=⟨[],fun _=>0,fun _=>0,fun _=>[],fun _=> .slice none 0 0,fun _ _=>false,fun _=>false,[]⟩
theorem lk0(G)(q):ir G q Dj 0:=
 ⟨⟨List.nodup_nil,(fun p hp=>by cases hp),fun k i c hk=>by cases hk⟩,fun k hk=>absurd hk (Nat.not_lt_zero k),rfl,fun k hk=>absurd hk (Nat.not_lt_zero k)⟩
theorem RP.fix{w0 W}{p mb}{G}{q}{aS}{cS}{D}{lab}(h:RP w0 p mb G aS (states q).length cS (G.rules.length+1) (G.rules.length+1) (G.rules.length+1) D lab W)(hv:checkN G=0)(dn:Done G q)(sm:Small (states q))(len:q.1.length<=2000)
  (Gs:∀w,Sep.Fr (fun b=>b=p\/b=mb) W w->fB aS (states q) w) (hm:mb<w0.heap.size) (Ct:p≠mb) (hmB:mb≠D.bB) (map:jz mb 0 (fun _=>none) W):
  ∃K:Fk,K.p=p/\Fix W K G q/\∃S,gM W K G q Dj S W/\∀b,S b->b=p\/b=mb:=by
 obtain⟨⟨a2,c2,e2⟩,⟨a4,c4,e4⟩⟩:=(⟨Rw.cu h.nA,Rw.cu h.nD⟩:_/\_);have hr2:=h.nA;have hr4:=h.nD;rw[e2]at hr2;rw[e4]at hr4
 obtain⟨bR,rfl⟩:∃bR,a2=some ⟨bR,0,none⟩:=by
  rcases hr2.2 with⟨e,_⟩|⟨g,_,_,e,_⟩
  ·cases e
  ·simp only[Value.slice.injEq]at e;exact⟨g,e.1⟩
 obtain⟨bT,rfl⟩:∃bT,a4=some ⟨bT,0,none⟩:=by
  rcases hr4.2 with⟨e,_⟩|⟨g,_,_,e,_⟩
  ·cases e
  ·simp only[Value.slice.injEq]at e;exact⟨g,e.1⟩
 have hpl:=h.bk h.lp (by intro e;cases e);have zn:mb<W.heap.size:=Nat.lt_of_lt_of_le hm h.fr.size;refine⟨⟨aS,cS,bR,c2,D.bB,D.cB,bT,c4,D.tP,D.tD,p,mb⟩,rfl,⟨hv,dn,sm,len,fun w f=>?_,hpl,zn,Ct⟩,?_⟩
 ·have kw:∀b L,lab b=L->L≠.no->L≠.box->w.heap[b]?=W.heap[b]?:=fun b L e h1 h2=>by
   refine f.block b (h.bK b (e▸h1)) ?_;rintro(r|r)
   ·have r:b=p:=r;rw[r,h.lp]at e;exact h2 e.symm
   ·have r:b=mb:=r;rcases h.low b (e▸h1)with r2|r2|r2
    ·exact Ct (r2.symm.trans r)
    ·exact hmB (r.symm.trans r2)
    ·omega
  have ww:World.heap W=W.heap:=rfl;refine⟨Gs w f,fun k hk=>?_,fun s hs=>?_,fun k hk=>?_⟩
  ·have hro:w.ownsRow w0.heap.size 55 2 (.slice (some ⟨bR,0,none⟩) (G.rules.length+1) c2) (G.rules.length+1) ((List.range (G.rules.length+1)).flatMap (pS G D)):=Sep.bS hr2 fun g hg=>kw g _ (h.lr g (by rw[e2];exact hg)) (by intro e;cases e) (by intro e;cases e)
   have rd:=World.ownsRow.cells hro (g:=bR) rfl;have t0:=rd (k*2+0) _ (by rw[Rw.mE (pS G D) (Ux G D) _ k (by simp;omega) 0 (by omega),List.getElem_range];rfl);have t1:=rd (k*2+1) _ (by rw[Rw.mE (pS G D) (Ux G D) _ k (by simp;omega) 1 (by omega),List.getElem_range];rfl);rw[WideShapes.add_plain]at t0 t1
   refine⟨D.aR k,D.cR k,by simpa using t0,by simpa using t1,by
    by_cases hn:(ax G (k:Int)).2=[]
    ·rw[hn];exact .nil _ _
    ·exact(h.kU k (by omega)).keep fun b o e=>kw b _ (h.ny k (by omega) hn b o e) (by intro e;cases e) (by intro e;cases e)⟩
  ·have hro:=Sep.bS (w':=w) (h.pq s hs) fun g hg=>kw g _ (h.ll s hs g hg) (by intro e;cases e) (by intro e;cases e)
   obtain⟨a,c,e⟩:=Rw.cu hro;refine⟨a,c,?_,?_⟩
   ·have hc:=(World.cell?_of_block (a:=⟨D.bB,s,none⟩) (kw D.bB _ h.lb (by intro e;cases e) (by intro e;cases e))).trans (h.ov s hs);rw[e]at hc;exact hc
   ·rw[e]at hro;exact Sep.Reads.dQ hro
  ·obtain⟨a,c,e,t⟩:=h.tails k (by omega);obtain⟨l1,l2⟩:=h.fW k (by omega);have hro:w.ownsRow w0.heap.size 206 1 (.slice (some ⟨bT,0,none⟩) (G.rules.length+1) c4) (G.rules.length+1) ((List.range (G.rules.length+1)).map D.TV):=Sep.bS hr4 fun g hg=>kw g _ (h.lt g (by rw[e4];exact hg)) (by intro e;cases e) (by intro e;cases e)
   have t0:=World.ownsRow.cells hro (g:=bT) rfl k (D.TV k) (by rw[List.getElem?_map,List.getElem?_range (by omega)];rfl);rw[WideShapes.add_plain]at t0;refine⟨a,c,by rw[←e];simpa using t0,fun d hd=>?_⟩;have htr:=Sep.bS (w':=w) t.row fun g hg=>kw g _ (l1 g hg) (by intro e;cases e) (by intro e;cases e)
   rw[e]at htr;rcases htr.2 with⟨_,h0⟩|⟨g,cap,cur,e5,_⟩
   ·omega
   ·simp only[Value.slice.injEq]at e5;obtain⟨rfl,_,_⟩:=e5;have rd:=World.ownsRow.cells htr (g:=g) rfl;have y0:=rd (d*2+0) _ (by rw[Rw.mE (fun d=>py (D.tP k d,pz G (ax G (k:Int)).2 d)) (fun _=>rfl) _ d (by simp;omega) 0 (by omega),List.getElem_range];rfl);have y1:=rd (d*2+1) _ (by rw[Rw.mE (fun d=>py (D.tP k d,pz G (ax G (k:Int)).2 d)) (fun _=>rfl) _ d (by simp;omega) 1 (by omega),List.getElem_range];rfl);rw[WideShapes.add_plain]at y0 y1;exact⟨g,rfl,by simpa using y0,(show w.cell? ⟨g,d*2+1,none⟩=some (.bool (pz G (ax G (k:Int)).2 d))from by simpa using y1),(t.sets d hd).keep f.size (kw _ _ (l2 d hd).1 (by intro e;cases e) (by intro e;cases e)) (kw _ _ (l2 d hd).2 (by intro e;cases e) (by intro e;cases e))⟩
 ·have nl:∀g,(Value.slice none 0 0).ownBlock=some g->False:=fun g e=>by simp[Value.ownBlock]at e
  refine⟨fun b=>(if b=p then Lb.box else if b=mb then Lb.map else Lb.no)≠.no,⟨fun b=>if b=p then .box else if b=mb then .map else .no,.slice none 0 0,.slice none 0 0,⟨.refl _ _,?_,World.ownsRow_nil _ _ _ _,fun k hk=>absurd hk (Nat.not_lt_zero k),fun k hk=>absurd hk (Nat.not_lt_zero k),fun k hk=>absurd hk (Nat.not_lt_zero k),?_,World.ownsRow_nil _ _ _ _,if_pos rfl,?_,fun g e=>(nl g e).elim,fun k hk=>absurd hk (Nat.not_lt_zero k),fun k hk=>absurd hk (Nat.not_lt_zero k),fun k hk=>absurd hk (Nat.not_lt_zero k),fun g e=>(nl g e).elim,fun b e=>?_,fun b e=>?_⟩,rfl⟩,fun b e=>?_⟩
  ·have:=h.box;unfold rb at this;rw[e2,e4]at this;exact this
  ·exact map.eq fun x=>by simp[ez,Dj]
  ·show(if mb=p then Lb.box else if mb=mb then Lb.map else Lb.no)=.map;rw[if_neg (fun e=>Ct e.symm),if_pos rfl]
  ·by_cases h1:b=p
   ·exact .inl h1
   ·by_cases h2:b=mb
    ·exact .inr (.inl h2)
    ·rw[if_neg h1,if_neg h2]at e;exact absurd rfl e
  ·by_cases h1:b=p
   ·exact h1▸hpl
   ·by_cases h2:b=mb
    ·exact h2▸zn
    ·rw[if_neg h1,if_neg h2]at e;exact absurd rfl e
  ·have e:(if b=p then Lb.box else if b=mb then Lb.map else Lb.no)≠.no:=e
   by_cases h1:b=p
   ·exact .inl h1
   ·by_cases h2:b=mb
    ·exact .inr h2
    ·rw[if_neg h1,if_neg h2]at e;exact absurd rfl e
