/- Proof. -/
import Derived.Test.YtegeamggbglneaaGreatDoorPk27
set_option maxHeartbeats 8000000
set_option maxRecDepth 100000
set_option linter.unusedVariables false
namespace Go.Proofs.YtegeamggbglneaaGreatDoor
namespace Lk
open Go.RowKit Go.Maps
open Gr (ai cell_later bg boxed drawn step ax top)
open Im
open Au
open Bt (az)
open Rw (gZ)
theorem zWd:laidOutB Tryz.prog=true:=by kernel_rfl
theorem rowP:221<Tryz.prog.types.size:=of_decide_eq_true (by kernel_rfl)
theorem zWm:2<=Tryz.prog.types.size:=of_decide_eq_true (by kernel_rfl)
theorem Lp:Keyed Tryz.prog 221:=.of_law (deep_law_laid zWd (m:=3) (by omega) rowP (by kernel_rfl) (by rw[Tryz.underlying221]))
theorem Gm:Kp Tryz.prog 221:=
 zWX _ _ _ _ Lp Tryz.underlying221 Tryz.underlying3 Tryz.underlying181 Tryz.underlying3 Tryz.underlying3 (by kernel_rfl) (by kernel_rfl) (by kernel_rfl) (by kernel_rfl) (by kernel_rfl) (by kernel_rfl) rfl rfl rfl rfl (by decide) (by decide) (by decide) (by decide) (Tryz.prog.types.size-2) (by have:=zWm;omega)
theorem Zg(w):(zeroValue 3).run Tryz.prog w=.ok (.int .i64 0) w:=by kernel_rfl
theorem Af{a}(h0: -9223372036854775808<=a)(h1:a<=9223372036854775807):(Lit.int .i64 a).wf=true:=by
 simp only[Lit.wf,IntKind.min,IntKind.max,IntKind.signed,IntKind.bits,Bool.and_eq_true,decide_eq_true_eq,if_true];omega
def Za(W:World)(K:Fk)(G:ai)(q:Whole)(N:Nt)(i:Nat)(X:au)(S:Nat->Prop)(w:World)(e:Ending)(w':World):Prop:=
 ∃(k:Nat) (M:Nt),e=.returned (.int .i64 (k:Int))/\M.ak[k]?=some (i,X)/\(((i,X)∈N.ak/\M=N/\Below w.heap.size w w')\/((i,X)∉N.ak/\∃d e,M=N.cell (i,X) d e))/\∃T,gM W K G q M T w'/\Sep.Fr S w w'/\Sep.Ext T S w
theorem zPq(T)(base P)(w:World)(q)(hq:q=w.heap.size)(hb:base<=q):(w.alloc (.cells #[.pointer (some ⟨P,0,none⟩),.slice none 0 0,.bool false] T)).ownsRow base T 3 (.slice (some ⟨q,0,none⟩) 1 1) 1 [.pointer (some ⟨P,0,none⟩),.slice none 0 0,.bool false]:=by
 subst hq;exact World.ownsRow_lit w #[.pointer (some ⟨P,0,none⟩),.slice none 0 0,.bool false] 1 hb (by decide) (by simp)
theorem Vk{l}(h):(bD l)[0]=.int .i64 ((l.headD 0:Nat):Int):=by
 cases l with
 |nil=>cases h
 |cons x l=>rfl
theorem sj{K}{G}{q}{w}(F:fF K G q w)(hv:Gr.checkN G=0){r}(hr:r<=G.rules.length):∃(s:Nat) (b o n c k0:Nat),(ax G (r:Int)).1=(s:Int)/\s<top G+1/\w.cell? ⟨K.bR,r*2,none⟩=some (.int .i64 (s:Int))/\w.cell? ⟨K.bB,s,none⟩=some (.slice (some ⟨b,o,none⟩) n c)/\0<n/\w.cell? ⟨b,o,none⟩=some (.int .i64 (k0:Int))/\rep G ((r:Int),0)=((k0:Int),0):=by
 have hl:∃s:Nat,(ax G (r:Int)).1=(s:Int)/\s<=top G:=by
  rcases uw hv hr with⟨_,e⟩|⟨_,e1,e2⟩
  ·exact⟨0,by rw[e];rfl,Nat.zero_le _⟩
  ·exact⟨(ax G (r:Int)).1.toNat,by omega,by omega⟩
 obtain⟨s,hs,hst⟩:=hl;obtain⟨_,_,f1,_,_⟩:=F.rules r hr;obtain⟨a,c,f2,f3⟩:=F.qM s hst;have hm:=yD (G:=G) hr;have ua:rep G ((r:Int),0)=hd G (s:Int):=by rw[yG rfl,hs]
 rw[hs]at hm f1;have hpos:0<(eI G (s:Int)).length:=List.length_pos_of_mem hm;obtain⟨b,o,rfl,f4⟩:=f3 0 (by rw[Hn];exact hpos);refine⟨s,b,o,_,c,(eI G (s:Int)).headD 0,hs,by omega,f1,f2,hpos,?_,ua⟩;rw[Vk]at f4;exact f4
theorem Ei{W:World}{K:Fk}{G:ai}{q:Whole}{N:Nt}{S:Nat->Prop}(FX:Fix W K G q)(w:World)(h:gM W K G q N S w)(hC:N.ak.length<=100000000)(hT:G.terms.length<=1000)(i r:Nat)(d:Int)(hi:i<=1000000)(hr:r<=G.rules.length)(hR:G.rules.length<=1000000)(hd0:0<=d)(hd1:d<=1000000):
  Calls Tryz.prog 116 #[.pointer (some ⟨K.p,0,none⟩),.int .i64 (i:Int),.agg #[.int .i64 (r:Int),.int .i64 d]] w (Za W K G q N i (rep G ((r:Int),d)) S w):=by
 obtain⟨lab,cv,qv,h,rfl⟩:=h;have H0:=af h;have bX:Below w.heap.size w (w.alloc (.cells #[.int .i64 (r:Int),.int .i64 d] 181)):=boxed _ _;have H1:=af (h.went bX);have HB:=af bX;have b0:(w.alloc (.cells #[.int .i64 (r:Int),.int .i64 d] 181)).cell? ⟨w.heap.size,0,none⟩=some (.int .i64 (r:Int)):=bg rfl rfl;have b1:(w.alloc (.cells #[.int .i64 (r:Int),.int .i64 d] 181)).cell? ⟨w.heap.size,1,none⟩=some (.int .i64 d):=bg rfl rfl;have fz:=(Rw.Bk.new w #[.int .i64 (r:Int),.int .i64 d] 181 _ rfl).free;obtain⟨aC,cC,rfl⟩:=Rw.cu h.row;have Bg:W.heap.size<=w.heap.size:=h.fr.size;have hpl:K.p<w.heap.size:=h.bk h.lp (by intro e;cases e);obtain⟨_,p1,p2,p3,_,p5,p6,_⟩:=H1.out.eight;have Gi:(r:Int)<((G.rules.length+1:Nat):Int):=by omega
 have hbl:w.heap.size<(w.alloc (.cells #[.int .i64 (r:Int),.int .i64 d] 181)).heap.size:=by simp
 obtain⟨i0,hj,hz0,hz1,hz2⟩:=info_parts zNZ;have QA:=Af (a:=(N.ak.length:Int)) (by omega) (by omega);have Rs:=Af (a:=(i:Int)) (by omega) (by omega);clear h bX
 by_cases hd:d=0
 case' pos=>
  subst hd;obtain⟨s,b,o,n,c,k0,_,s1,s2,s3,s4,s5,s6⟩:=sj (FX.at_ _ H1.out.fr) FX.ok hr
  have rX:k0<=1000000:=by
   have hm:=yD (G:=G) hr;have e:=yG (G:=G) (x:=((r:Int),0)) rfl;rw[s6]at e;unfold hd at e;injection e with e _
   have:=(rE.1 hm).1;dsimp only at e;omega
  generalize rep G ((r:Int),0)=X at*;have qI:tB (i,X):=⟨Rs,by rw[s6];exact⟨Af (by dsimp only;omega) (by dsimp only;omega),Af (by dsimp only;omega) (by dsimp only;omega)⟩⟩;go_enter Tryz.func116,Tryz.ntmps116;go_wp2_with fail;generalize hw1:w.alloc (.cells #[.int .i64 (r:Int),.int .i64 0] 181)=w1 at*;go_region;go_wp2_with fail
  have B3:Below w.heap.size w ((w1.setCell ⟨w.heap.size,0,none⟩ (.int .i64 (k0:Int))).alloc (.cells #[.int .i64 (i:Int),.int .i64 (k0:Int),.int .i64 0] 221)).drew:=
   (((Sep.Fr.of_below (S:=fun _=>False) HB.out).kZ ⟨w.heap.size,0,none⟩ (Nat.le_refl _) _).alloc _).drew.below (fun k hk=>hk.elim) (Nat.le_refl _)
  have hs1:(w1.setCell ⟨w.heap.size,0,none⟩ (.int .i64 (k0:Int))).heap.size=w1.heap.size:=by simp[World.setCell]
  have c0:((w1.setCell ⟨w.heap.size,0,none⟩ (.int .i64 (k0:Int))).alloc (.cells #[.int .i64 (i:Int),.int .i64 (k0:Int),.int .i64 0] 221)).drew.cell? ⟨w1.heap.size,0,none⟩=some (.int .i64 (i:Int)):=bg (w:=w1.setCell ⟨w.heap.size,0,none⟩ (.int .i64 (k0:Int))) hs1.symm rfl;have c1:((w1.setCell ⟨w.heap.size,0,none⟩ (.int .i64 (k0:Int))).alloc (.cells #[.int .i64 (i:Int),.int .i64 (k0:Int),.int .i64 0] 221)).drew.cell? ⟨w1.heap.size,1,none⟩=some (.int .i64 (k0:Int)):=bg (w:=w1.setCell ⟨w.heap.size,0,none⟩ (.int .i64 (k0:Int))) hs1.symm rfl;have c2:((w1.setCell ⟨w.heap.size,0,none⟩ (.int .i64 (k0:Int))).alloc (.cells #[.int .i64 (i:Int),.int .i64 (k0:Int),.int .i64 0] 221)).drew.cell? ⟨w1.heap.size,2,none⟩=some (.int .i64 0):=bg (w:=w1.setCell ⟨w.heap.size,0,none⟩ (.int .i64 (k0:Int))) hs1.symm rfl;generalize ((w1.setCell ⟨w.heap.size,0,none⟩ (.int .i64 (k0:Int))).alloc (.cells #[.int .i64 (i:Int),.int .i64 (k0:Int),.int .i64 0] 221)).drew=w3 at*;have H3:=af (H0.out.went B3)
  have LK:(Instr.lookup 173 (.map (some K.mb)) (.agg #[.int .i64 (i:Int),.int .i64 (k0:Int),.int .i64 0]) true).run Tryz.prog w3.drew=.ok (.tuple #[.int .i64 ((ez N.ak (i,X)).getD 0),.bool (ez N.ak (i,X)).isSome]) w3.drew:=by
   have:=(H3.out.went (drawn w3)).look Gm Zg qI;rw[s6]at this⊢;exact this
  have MU:∃w5,(Instr.mapUpdate 173 (.map (some K.mb)) (.agg #[.int .i64 (i:Int),.int .i64 (k0:Int),.int .i64 0]) (.int .i64 (N.ak.length:Int))).run Tryz.prog w3.drew.drew=.ok () w5/\jz K.mb (N.ak.length+1) (fun y=>if y=(i,X)then some (N.ak.length:Int)else ez N.ak y) w5/\w3.drew.drew.mapTurned w5 K.mb:=by
   have:=((H3.out.went (drawn w3)).went (drawn w3.drew)).map.store (T:=173) Gm Tryz.underlying173 Tryz.underlying3 (by unfold maxLen;omega) qI QA;rw[s6]at this⊢;exact this
  clear s1 s2 s3 s4 s5 s6 hw1 hs1 H1 b0 b1 fz p1 p2 p3 p5 p6 Gi hbl
 case' neg=>
  have s6:=uE (G:=G) (x:=((r:Int),d)) hd;generalize rep G ((r:Int),d)=X at*;have qI:tB (i,X):=⟨Rs,by rw[s6];exact⟨Af (by dsimp only;omega) (by dsimp only;omega),Af (by dsimp only;omega) (by dsimp only;omega)⟩⟩;go_enter Tryz.func116,Tryz.ntmps116;go_wp2_with fail;have B3:Below w.heap.size w ((w.alloc (.cells #[.int .i64 (r:Int),.int .i64 d] 181)).alloc (.cells #[.int .i64 (i:Int),.int .i64 (r:Int),.int .i64 d] 221)):=Gr.step HB.out (boxed _ _);have c0:((w.alloc (.cells #[.int .i64 (r:Int),.int .i64 d] 181)).alloc (.cells #[.int .i64 (i:Int),.int .i64 (r:Int),.int .i64 d] 221)).cell? ⟨w.heap.size+1,0,none⟩=some (.int .i64 (i:Int)):=bg (by simp) rfl;have c1:((w.alloc (.cells #[.int .i64 (r:Int),.int .i64 d] 181)).alloc (.cells #[.int .i64 (i:Int),.int .i64 (r:Int),.int .i64 d] 221)).cell? ⟨w.heap.size+1,1,none⟩=some (.int .i64 (r:Int)):=bg (by simp) rfl;have c2:((w.alloc (.cells #[.int .i64 (r:Int),.int .i64 d] 181)).alloc (.cells #[.int .i64 (i:Int),.int .i64 (r:Int),.int .i64 d] 221)).cell? ⟨w.heap.size+1,2,none⟩=some (.int .i64 d):=bg (by simp) rfl;generalize (w.alloc (.cells #[.int .i64 (r:Int),.int .i64 d] 181)).alloc (.cells #[.int .i64 (i:Int),.int .i64 (r:Int),.int .i64 d] 221)=w3 at*;have H3:=af (H0.out.went B3)
  have LK:(Instr.lookup 173 (.map (some K.mb)) (.agg #[.int .i64 (i:Int),.int .i64 (r:Int),.int .i64 d]) true).run Tryz.prog w3.drew=.ok (.tuple #[.int .i64 ((ez N.ak (i,X)).getD 0),.bool (ez N.ak (i,X)).isSome]) w3.drew:=by
   have:=(H3.out.went (drawn w3)).look Gm Zg qI;rw[s6]at this⊢;exact this
  have MU:∃w5,(Instr.mapUpdate 173 (.map (some K.mb)) (.agg #[.int .i64 (i:Int),.int .i64 (r:Int),.int .i64 d]) (.int .i64 (N.ak.length:Int))).run Tryz.prog w3.drew.drew=.ok () w5/\jz K.mb (N.ak.length+1) (fun y=>if y=(i,X)then some (N.ak.length:Int)else ez N.ak y) w5/\w3.drew.drew.mapTurned w5 K.mb:=by
   have:=((H3.out.went (drawn w3)).went (drawn w3.drew)).map.store (T:=173) Gm Tryz.underlying173 Tryz.underlying3 (by unfold maxLen;omega) qI QA;rw[s6]at this⊢;exact this
  clear s6 H1 b0 b1 fz p1 p2 p3 p5 p6 Gi hbl
 all_goals
  obtain⟨_,_,_,_,_,p5,p6,_⟩:=H3.out.eight;have BB:=af B3
  by_cases hin:(i,X)∈N.ak
  ·obtain⟨e1,e2⟩:=zQ3 hin;rw[e1]at LK;simp only[Option.getD_some,Option.isSome_some]at LK;have E2:=af e2;clear e1 e2 MU;go_region;go_wp2_with fail;go_ret;exact⟨_,N,rfl,E2.out,.inl ⟨hin,rfl,BB.out.trans (drawn w3 |>.mono BB.out.size)⟩,_,⟨lab,_,_,H3.out.went (drawn w3),rfl⟩,.of_below (BB.out.trans (drawn w3 |>.mono BB.out.size)),.refl _ _⟩
  ·rw[zOA hin]at LK;simp only[Option.getD_none,Option.isSome_none]at LK;obtain⟨w5,hrun,Ci,vC⟩:=MU;have H4:=af ((H3.out.went (drawn w3)).went (drawn w3.drew));have M5:=af Ci;have T5:=af vC;obtain⟨x5,r5,z5⟩:=H4.out.nk vC;have e5:w5.cell? ⟨K.p,5,none⟩=some (.slice aC N.ak.length cC):=x5.cell rfl;have e1:w5.cell? ⟨K.p,1,none⟩=some (.int .i64 (G.terms.length:Int)):=x5.cell rfl;have hs3:=BB.out.size;have Q8:W.heap.size<=w5.heap.size:=Nat.le_trans Bg (Nat.le_trans hs3 z5);have Kv:K.p<w5.heap.size:=Nat.lt_of_lt_of_le hpl (Nat.le_trans hs3 z5);have X5:=af x5;have R5:=af r5;have SM:=af (show Calls Tryz.prog 140 #[.pointer (some ⟨K.p,0,none⟩),.slice none 0 0] w5.drew (NQ (G.terms.length+1) (il (G.terms.length+1) []) w5.drew)from Ol G.terms.length K.p [] none 0 w5.drew hT e1 (.nil _ _) (Nat.zero_le _) (fun t h=>by cases h));rw[XD]at SM;clear Ci vC x5 r5 H0;go_region;go_wp2_with fail;go_region;go_wp2_with fail;have kA:=drawn w5
   have mI:=af (fun(w6:World) (P D:Nat) (hs:az P D (G.terms.length+1) (fun _=>false) w6) (hP:w5.heap.size<=P) (hD:w5.heap.size<=D) (hb:Below w5.heap.size w5 w6)=>
    (show(∀(w7:World),(w6.alloc (.cells #[.pointer (some ⟨P,0,none⟩),.slice none 0 0,.bool false] 219)).grownBy w7 (Value.slice aC N.ak.length cC).ownBlock->w7.cell? ⟨K.p,5,none⟩=some (.slice aC N.ak.length cC)/\w7.frozen? ⟨K.p,5,none⟩=false)/\
     ∀(w7:World) (gS:Value),w7.ownsRow W.heap.size 219 3 gS (N.ak.length+1) (cells N++[.pointer (some ⟨P,0,none⟩),.slice none 0 0,.bool false])->(w6.alloc (.cells #[.pointer (some ⟨P,0,none⟩),.slice none 0 0,.bool false] 219)).grownBy w7 (Value.slice aC N.ak.length cC).ownBlock->(gS.ownBlock=(Value.slice aC N.ak.length cC).ownBlock\/gS.ownBlock=some (w6.alloc (.cells #[.pointer (some ⟨P,0,none⟩),.slice none 0 0,.bool false] 219)).heap.size)->
      ∃aJ,NP W K G q (N.cell (i,X) P D) aJ gS qv (w7.setCell ⟨K.p,5,none⟩ gS)/\Stp lab aJ w3.drew.drew (w7.setCell ⟨K.p,5,none⟩ gS)from
     ⟨fun w7 hg=>H4.out.px T5.out hb (boxed _ _) hg,fun w7 gS hown hg hv=>H4.out.more hin M5.out T5.out hs hP hD hb (boxed _ _) hown hg hv⟩))
   clear hrun LK
   go_region_law (first
    |(go_simp;go_at_call 140;(with_reducible refine(SM.out).mono ?_);rintro e w6 ⟨P,D,rfl,hP,hD,hs,hb⟩;have fw:Below w5.heap.size w5 w6:=Gr.step kA hb;have FN:=af (mI.out w6 P D hs hP hD fw);have q5:=cell_later fw e5;have Kw:K.p<w6.heap.size:=Nat.lt_of_lt_of_le Kv fw.size;have xR:W.heap.size<=(w6.alloc (.cells #[.pointer (some ⟨P,0,none⟩),.slice none 0 0,.bool false] 219)).heap.size:=Nat.le_trans Q8 (Nat.le_trans fw.size (by simp));have RX:=af (Sep.bS R5.out fun g hg=>(Gr.step fw (boxed w6 (.cells #[.pointer (some ⟨P,0,none⟩),.slice none 0 0,.bool false] 219))).block g (R5.out.lt g hg).2);have ON:=af (zPq 219 W.heap.size P w6 w6.heap.size rfl (Nat.le_trans Q8 fw.size));clear hs hb)
    | (refine gZ _ (by rfl) _ _ 175 (by rfl) W.heap.size 219 i0 (.agg #[.pointer none,.slice none 0 0,.bool false]) 3 40 Tryz.underlying175 hj hz0 hz1 hz2 rfl (by decide) (.slice aC N.ak.length cC) N.ak.length (cells N) (by rfl) RX.out W.heap.size (.slice (some ⟨w6.heap.size,0,none⟩) 1 1) 1 [.pointer (some ⟨P,0,none⟩),.slice none 0 0,.bool false] (by rfl) ON.out (by simp[Value.oneCell']) (by unfold maxLen;omega) (by omega) xR ?_;intro v7 w7 aM cV bQ;obtain⟨a7,c7,rfl⟩:=Rw.cu aM;obtain⟨q9,f9⟩:=FN.out.1 w7 cV;have R7:=af (FN.out.2 w7 _ aM cV bQ);clear aM cV bQ))
   all_goals
    go_wp2_with fail;go_ret;obtain⟨aJ,n3,s3⟩:=R7.out;have st:=(Stp.of_below lab (BB.out.trans ((drawn w3).mono hs3))).trans ((Stp.of_below lab (drawn w3.drew)).trans s3);refine⟨N.ak.length,N.cell (i,X) P D,rfl,?_,.inr ⟨hin,P,D,rfl⟩,_,⟨aJ,_,_,n3,rfl⟩,st.fr,st.ext⟩;show(N.ak++[(i,X)])[N.ak.length]?= _;simp
