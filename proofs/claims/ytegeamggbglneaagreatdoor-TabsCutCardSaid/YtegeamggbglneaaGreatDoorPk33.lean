/- Proof. -/
import Derived.Test.YtegeamggbglneaaGreatDoorPk32
import Derived.Test.YtegeamggbglneaaGreatDoorPk18
import Derived.Test.YtegeamggbglneaaGreatDoorPk31
set_option maxHeartbeats 8000000
set_option maxRecDepth 100000
set_option linter.unusedVariables false
namespace Go.Proofs.YtegeamggbglneaaGreatDoor
open Go.RowKit Go.Maps
namespace Lk
open Gr (ai cell_later bg boxed drawn step top)
open Im
open Au
open Rw (lL)
def Ou(L:List au)(w:World)(e:Ending)(w':World):Prop:=∃a c,e=.returned (.slice a L.length c)/\bw 181 w.heap.size L (.slice a L.length c) w'/\Below w.heap.size w w'
theorem zF1(w):(Instr.buildSlice 169 0 #[]).run Tryz.prog w=.ok (.slice (some ⟨w.heap.size,0,none⟩) 0 0) (w.alloc (.cells #[] 181)):=by kernel_rfl
theorem zMu(a:Option Addr)(l:List au)(c:Nat)(w:World)(h:bG a l w)(hl:l.length<=1000000):
  Calls Tryz.prog 137 #[.slice a l.length c] w (Ou l w):=by
 obtain⟨i0,hi,hz0,hz1,hz2⟩:=info_parts GV;cases a with
 |none=>
  have h0:l=[]:=by
   rcases l with _|⟨x,l⟩
   ·rfl
   ·obtain⟨_,_,e,_⟩:=h 0 (by rw[rC];simp);cases e
  subst h0;have hn:=Lib.run_eql_slice_nil (P:=Tryz.prog);go_enter Tryz.func137,Tryz.ntmps137;go_wp2;go_ret;exact⟨Option.none,_,rfl,bw.nil _ _ _,.refl _ _⟩
 |some x=>
  have HB:=af (fun v (w1 w2:World) (h1:w2.ownsRow w.heap.size 181 2 v (0+l.length) ([]++l.flatMap ic)) (h2:(w.alloc (.cells #[] 181)).grownBy w2 (some w.heap.size))=>show Ou l w (.returned v) w2 from by
   rw[Nat.zero_add,List.nil_append]at h1;obtain⟨a',c',rfl⟩:=Rw.cu h1
   exact⟨a',c',rfl,h1,((Below.refl _ _).alloc (Nat.le_refl _) _).grown h2 (by simp) fun k hk=>by injection hk with hk;omega⟩)
  have HO:=af (World.ownsRow_made (base:=w.heap.size) (e:=181) (size:=2) w #[] 0 (Nat.le_refl _) (by simp) (by simp));have hll:=rC l
  have HN:=af (show∀(j:Nat) (u:Value),(l.flatMap ic)[j]?=some u->(w.alloc (.cells #[] 181)).cell? (x.add j)=some u from fun j u hj=>by
   obtain⟨iU,rfl⟩:=List.getElem?_eq_some_iff.1 hj;obtain⟨b,o,e,hc⟩:=h j iU;injection e with e
   subst e;rw[WideShapes.add_plain]
   exact cell_later (boxed _ _) hc)
  have HL:=af (zTc l);clear h;have hn:=Lib.run_eql_slice_nil (P:=Tryz.prog);have hb:=zF1;go_enter Tryz.func137,Tryz.ntmps137;go_wp2_with (at_builtin;refine wpList_append_own_at _ rfl _ _ 169 rfl w.heap.size 181 i0 (.agg #[.int .i64 0,.int .i64 0]) 2 16 Tryz.underlying169 hi hz0 hz1 hz2 rfl (by decide) _ _ _ rfl HO.out x l.length c (l.flatMap ic) rfl (by omega) HN.out HL.out (by unfold maxLen;omega) (by omega) (by simp) ?_;intro v' w2 hown2 hg2 _ _;have HE:=af (HB.out v' w w2 hown2 hg2);clear hown2 hg2);go_ret;exact HE.out
def opn(B:List Nat)(m:Nat):List au:=(B.take m).map fun k:Nat=>((k:Int),0)
theorem WC(B):opn B 0=[]:=by simp[opn]
theorem zRD{B}{m}(h):opn B (m+1)=opn B m++[((B[m]:Int),0)]:=by
 unfold opn;rw[List.take_succ_eq_append_getElem h,List.map_append]
 rfl
def iy(G:ai)(Ki:List au)(Ti:List (Int×Int))(j:Nat):List au:=dZ G Ki ((Ti.take j).map Prod.fst)
theorem Mt(G)(Ki)(Ti):iy G Ki Ti 0=Ki:=by simp[iy,dZ]
theorem zMr{G}{Ki}{Ti}{j}(h):iy G Ki Ti j++opn (eI G Ti[j].1) (eI G Ti[j].1).length=iy G Ki Ti (j+1):=by
 unfold iy dZ opn;rw[List.take_succ_eq_append_getElem h,List.map_append,List.flatMap_append,List.take_length,List.append_assoc];simp
theorem X6(B)(m):(opn B m).length<=m:=by
 unfold opn;rw[List.length_map,List.length_take];omega
theorem Tq{W:World}{K:Fk}{G:ai}{q:Whole}{N:Nt}{S:Nat->Prop}(FX:Fix W K G q)(w:World)(h:gM W K G q N S w)(i:Nat)(hi:i<q.1.length):
  Calls Tryz.prog 113 #[.pointer (some ⟨K.p,0,none⟩),.int .i64 (i:Int)] w (Ou (dZ G (bp q.1 i) (jU q i)) w):=by
 obtain⟨lab,cv,qv,h,_⟩:=h;have zw:=zT FX.done.all hi;have hil:i<(states q).length:=by rw[rD FX.done.all];exact hi
 have F:=af (fun w1 (b:Below w.heap.size w w1)=>FX.at_ w1 (h.went b).fr);have P:=af (fun w1 (b:Below w.heap.size w w1)=>(h.went b).eight);obtain⟨b,o,a1,c1,a2,c2,e,d0,d1,d2,d3,_,_⟩:=(F.out w (.refl _ _)).Gs i hil
 have es:(states q)[i]=(bp q.1 i,q.2.getD i []):=by
  rw[List.getElem?_eq_getElem hil]at zw;injection zw
 have hm:=List.getElem_mem hil;have sK:=FX.small.items _ hm;have sT:=FX.small.trans _ hm;rw[es]at d0 d1 d2 d3 sK sT;dsimp only at d0 d1 d2 d3 sK sT;have hR:=(Fi.jq FX.ok).r
 have CU:∀s∈jU q i,∃m:Nat,m<=top G/\s=(m:Int):=fun s hs=>by
  obtain⟨m,h1,h2,_⟩:=(Hm FX.done hi).1 hs;exact⟨m+1,h1,h2⟩
 have SY:=af CU;obtain⟨p0,_,_,p3,_,_,_,_⟩:=P.out w (.refl _ _)
 have eL:dZ G (bp q.1 i) (jU q i)=iy G (bp q.1 i) (q.2.getD i []) (q.2.getD i []).length:=by
  unfold iy jU;rw[List.take_length]
 rw[eL];unfold jU at SY;generalize bp q.1 i=Ki at*;generalize q.2.getD i []=Ti at*;have D2:=af d2;have D3:=af d3;clear d2 d3 zw es hm CU eL h hi;obtain⟨i0,hj,hz0,hz1,hz2⟩:=info_parts GV;have CL:=af (zMu a1 Ki c1 w D2.out sK);rw[e]at p0;have Kl:(i:Int)<((states q).length:Int):=by omega
 go_enter Tryz.func113,Tryz.ntmps113;go_wp2_with (go_at_call 137;refine CL.out.mono ?_;rintro e w1 ⟨a3,c3,rfl,h1,h2⟩;have V1:=af h1;have B1:=af h2;have p01:=cell_later h2 p0;have d11:=cell_later h2 d1;clear h1 h2);go_loopw [5,28] (fun v t wr=>∃(j:Nat) (a:Option Addr) (c:Nat),t=.int .i64 j/\j<=Ti.length/\v=.slice a (iy G Ki Ti j).length c/\(iy G Ki Ti j).length<=1000000+j*1000/\bw 181 w.heap.size (iy G Ki Ti j) v wr/\Below w.heap.size w wr) (fun _ t _=>Ti.length-(intOf t).toNat)
 case atStart=>exact⟨0,a3,c3,rfl,Nat.zero_le _,by rw[Mt],by rw[Mt];omega,by rw[Mt];exact V1.out,B1.out⟩
 case round=>
  obtain⟨j,a,c,rfl,iU,rfl,hlen,hV,hB⟩:=hrel;have V:=af hV;have B:=af hB;clear hV hB V1 B1 p01 d11
  by_cases hlt:j<Ti.length
  ·obtain⟨b2,o2,e2,t0,t1⟩:=(D3.out.went B.out).at j hlt;obtain⟨s,hs1,hs2⟩:=SY.out _ (List.mem_map.2 ⟨_,List.getElem_mem hlt,rfl⟩);have SU:=af (zMr (G:=G) (Ki:=Ki) hlt);subst e2;obtain⟨aB,cB,f20,f3⟩:=(F.out w (.refl _ _)).qM s (by omega);have f2:=cell_later B.out f20;obtain⟨_,_,_,p3r,_,_,_,_⟩:=P.out wr B.out;have hBl:=VE G (Ti[j].1) (G.rules.length+1);have RB:=af f3;rw[←hs2]at f2 RB;rw[hs2]at t0;rw[show dm G (Ti[j].1) (G.rules.length+1)=eI G Ti[j].1 from rfl]at hBl;generalize Ti[j].1=sy at*;generalize Ti[j].2=ty at*;generalize hBB:eI G sy=BB at*;generalize hCj:iy G Ki Ti j=Cj at*;have bx:Below wr.heap.size wr (wr.alloc (.cells #[.int .i64 (s:Int),.int .i64 ty] 197)):=boxed _ _;have x0:(wr.alloc (.cells #[.int .i64 (s:Int),.int .i64 ty] 197)).cell? ⟨wr.heap.size,0,none⟩=some (.int .i64 (s:Int)):=bg rfl rfl;have y3:=cell_later bx p3r;have y2:=cell_later bx f2;have V2:=af ((V.out.went bx).went (drawn _));have B2:=af (Gr.step (Gr.step B.out bx) (drawn _));have hsx:(s:Int)<((top G+1:Nat):Int):=by omega
   have abE:(0:Int)<=(s:Int):=by omega
   clear f3 f20 hBB;go_wp2_with fail;generalize wr.alloc (.cells #[.int .i64 (s:Int),.int .i64 ty] 197)=wx at*;go_region;generalize wx.drew=wy at*;go_wp2_with fail;go_loopw [5,41] (fun v t wz=>∃(m:Nat) (a:Option Addr) (c:Nat),t=.int .i64 m/\m<=BB.length/\v=.slice a (Cj++opn BB m).length c/\bw 181 w.heap.size (Cj++opn BB m) v wz/\Below w.heap.size w wz) (fun _ t _=>BB.length-(intOf t).toNat)
   case atStart=>exact⟨0,a,c,rfl,Nat.zero_le _,by rw[WC,List.append_nil],by rw[WC,List.append_nil];exact V2.out,B2.out⟩
   case round=>
    obtain⟨m,a9,c9,rfl,oq,rfl,Q6,zj⟩:=hrel;have V9:=af Q6;have B9:=af zj;clear Q6 zj V2 B2 V B
    by_cases Cl:m<BB.length
    ·obtain⟨b4,o4,rfl,Ri⟩:=(RB.out.below B9.out (Nat.le_refl _)) m (by rw[Hn];exact Cl);have Rj:wr.cell? ⟨b4,o4+m,none⟩=some (.int .i64 (BB[m]:Int)):=by simpa[bD]using Ri
     have OE:=af (zRD Cl);have hol:=X6 BB m;have hlm:(Cj++opn BB m).length<=1000000+j*1000+m:=by rw[List.length_append];omega
     generalize BB[m]=kk at*;have hsz:w.heap.size<=wr.heap.size:=B9.out.size;have bl:=boxed wr (.cells #[.int .i64 (kk:Int),.int .i64 0] 181);have VX:=af (V9.out.went bl);have BX:=af (Gr.step B9.out bl);have CZ:=BX.out.size;have ON:=af (Hj 181 w.heap.size wr.heap.size ((kk:Int),0) wr rfl hsz);have hrl:=af (fun g hg=>(World.ownsRow.lt V9.out g hg).1);have EE:=af (show(Cj++opn BB m)++[((kk:Int),0)]=Cj++opn BB (m+1)from by rw[OE.out,List.append_assoc]);generalize hCC:Cj++opn BB m=CC at*;have KR:=af (fun(w2:World) (hg:(wr.alloc (.cells #[.int .i64 (kk:Int),.int .i64 0] 181)).grownBy w2 (Value.slice a9 CC.length c9).ownBlock)=>(show Below w.heap.size w w2 from BX.out.trans (yl hg CZ hrl.out)));clear V9 B9 Ri bl hrl hCC OE;go_wp2_with (at_builtin;refine lL _ rfl _ _ 169 rfl w.heap.size 181 i0 (.agg #[.int .i64 0,.int .i64 0]) 2 16 Tryz.underlying169 hj hz0 hz1 hz2 rfl (by decide) (.slice a9 CC.length c9) CC.length (CC.flatMap ic) rfl VX.out w.heap.size _ 1 (ic ((kk:Int),0)) rfl ON.out (Oy _) (by unfold maxLen;omega) (by omega) CZ ?_;intro v' w' hown hg _;have V2:=af (bw.of_append (Y:=[((kk:Int),0)]) (by simpa using hown) rfl rfl);have W2:=af (KR.out w' hg);obtain⟨a7,c7,rfl⟩:=Rw.cu hown;clear hown hg);go_roundw
     case rel=>exact⟨m+1,a7,c7,by go_num,by omega,by rw[←EE.out];simp,by rw[←EE.out];simpa using V2.out,W2.out⟩
     case measure=>simp[intOf];omega
    ·have hE:m=BB.length:=by omega
     subst hE;rw[SU.out]at V9;have hol:=X6 BB BB.length;have hlm:(iy G Ki Ti (j+1)).length<=1000000+(j+1)*1000:=by rw[←SU.out,List.length_append];omega
     rw[SU.out];go_wp2;go_roundw
     case rel=>exact⟨j+1,a9,c9,by go_num,by omega,rfl,hlm,V9.out,B9.out⟩
     case measure=>simp[intOf];omega
  ·have hE:j=Ti.length:=by omega
   subst hE;go_wp2;go_ret;exact⟨a,c,rfl,V.out,B.out⟩
end Lk
namespace Lk
open Gr (ai cell_later bg boxed ax top checkN)
open Im
open Au
open Fi (dz bC aD aK zQ rG Ej yA mM)
theorem zQh{G}{l}{t}:dz (aD G) (aK G) l t=true↔mM G l t:=by
 rw[zQ];constructor
 ·rintro⟨pre,y,post,h1,h2,h3⟩;exact⟨pre,y,post,h1,fun z hz=>rG.1 (h2 z hz),Ej.1 h3⟩
 ·rintro⟨pre,y,post,h1,h2,h3⟩;exact⟨pre,y,post,h1,fun z hz=>rG.2 (h2 z hz),Ej.2 h3⟩
structure ir (G:ai) (q:Whole) (N:Nt) (cnt:Nat):Prop where
 lk:lD G q N
 oW:∀k,k<N.ak.length->(∀t,N.S k t=false)/\N.Wt k=false
 qs:N.qs=[]
 ys:∀k,k<N.ak.length->(N.Ys k).length<=cnt
theorem ir.mono{G}{q}{N}{c c'}(h:ir G q N c)(hc:c<=c'):ir G q N c':=⟨h.lk,h.oW,h.qs,fun k hk=>Nat.le_trans (h.ys k hk) hc⟩
theorem ir.cell{G}{q}{N}{cnt}(h:ir G q N cnt){i}{c}(hn:(i,c)∉N.ak)(hi:i<q.1.length)(hc:rep G c=c)(hr:bo G c=true)(d e):ir G q (N.cell (i,c) d e) cnt:=by
 have hl:(N.cell (i,c) d e).ak.length=N.ak.length+1:=by
  show(N.ak++[(i,c)]).length= _;simp
 refine⟨h.lk.cell hn hi hc hr d e,fun k hk=>?_,h.qs,fun k hk=>?_⟩
 ·rw[hl]at hk;show(∀t,upd N.S N.ak.length (fun _=>false) k t=false)/\upd N.Wt N.ak.length false k=false
  by_cases e:k=N.ak.length
  ·subst e;rw[upd_same,upd_same];exact⟨fun _=>rfl,rfl⟩
  ·rw[bu e,bu e];exact h.oW k (by omega)
 ·rw[hl]at hk;show(upd N.Ys N.ak.length [] k).length<=cnt
  by_cases e:k=N.ak.length
  ·subst e;rw[upd_same];exact Nat.zero_le _
  ·rw[bu e];exact h.ys k (by omega)
theorem ir.lead{G}{q}{N}{cnt}(h:ir G q N cnt){k i:Nat}{x}(hk:N.ak[k]?=some (i,rep G x))(hx:cM G (bp q.1 i) x)(hb:aZ G x=true){y}(hy:sZ G q N.ak i x y)(v):ir G q (N.lead k y v) (cnt+1):=by
 refine⟨h.lk.lead hk hx hb hy v,h.oW,h.qs,fun a ha=>?_⟩;show(upd N.Ys k (N.Ys k++[y]) a).length<=cnt+1
 by_cases e:a=k
 ·subst e;rw[upd_same,List.length_append];have:=h.ys a ha;simp;omega
 ·rw[bu e];exact Nat.le_succ_of_le (h.ys a ha)
theorem ir.of_cell{G}{q}{N M}{cnt}(h:ir G q N cnt){i}{X}(hi:i<q.1.length)(hc:rep G X=X)(hr:bo G X=true){P}(hM:((i,X)∈N.ak/\M=N/\P)\/((i,X)∉N.ak/\∃d e,M=N.cell (i,X) d e)):ir G q M cnt/\oM N M:=by
 rcases hM with⟨_,rfl,_⟩|⟨hn,d,e,rfl⟩
 ·exact⟨h,.refl _⟩
 ·exact⟨h.cell hn hi hc hr d e,N.lZ _ d e⟩
theorem yu{G}(hv:checkN G=0){q}{N}(h:lD G q N)(hq:q.1.length<=2000):N.ak.length<=6000000:=by
 have h1:=h.len (A:=allI G) (fun x hx=>uC hx);have h2:=se hv;have:q.1.length*(allI G).length<=2000*2709:=Nat.mul_le_mul hq h2;omega
def oD(k:Nat):Way:=⟨.pointer none,fun _=>false,true,k⟩
noncomputable def uh(K:Fk)(G:ai)(r d k:Nat):Way:=⟨.pointer (some ⟨K.tP r d,0,none⟩),Fe G r d,OV G r d,k⟩
theorem zWf(K)(G)(k):oc K G (oD k):=.inl ⟨rfl,rfl⟩
theorem zWV(K)(G){r d:Nat}(hr:r<=G.rules.length)(hd:d<(ax G (r:Int)).2.length)(k):oc K G (uh K G r d k):=.inr ⟨r,d,hr,hd,rfl,rfl⟩
theorem OU(k):(oD k).Ov:=⟨rfl,fun _=>rfl⟩
theorem Zj(K)(G)(r d k):(uh K G r d k).In G ((r:Int),(d:Int)):=by
 have e:yU G ((r:Int),(d:Int))=(ax G (r:Int)).2.drop (d+1):=by
  unfold yU;dsimp only
  congr 1
 refine⟨?_,fun u=>?_⟩
 ·rw[e];show bC (aD G) ((ax G (r:Int)).2.drop (d+1))=true↔_;rw[yA];exact⟨fun h z hz=>rG.1 (h z hz),fun h z hz=>rG.2 (h z hz)⟩
 ·rw[e];show(decide (u<G.terms.length+1)&&dz (aD G) (aK G) ((ax G (r:Int)).2.drop (d+1)) (u:Int))=true↔_;rw[Bool.and_eq_true,decide_eq_true_iff,zQh];refine⟨fun h=>h.2,fun h=>⟨?_,h⟩⟩;have:=Fi.DV h;omega
structure LS (W:World) (K:Fk) (G:ai) (q:Whole) (S:Nat->Prop) (w0:World) (r d:Int) (N:Nt) (T:Nat->Prop) (w:World):Prop where
 at_:gM W K G q N T w
 x0:w.cell? ⟨w0.heap.size,0,none⟩=some (.int .i64 r)
 x1:w.cell? ⟨w0.heap.size,1,none⟩=some (.int .i64 d)
 off:¬T w0.heap.size
 lt:w0.heap.size<w.heap.size
 fr:Sep.Fr S w0 w
 ext:Sep.Ext T S w0
section
variable {W:World} {K:Fk} {G:ai} {q:Whole} {S:Nat->Prop} {w0:World} {r d:Int} {N M:Nt} {T U:Nat->Prop} {w w':World}
theorem LS.start(h:gM W K G q N S w0)(r d)(Ty):LS W K G q S w0 r d N S (w0.alloc (.cells #[.int .i64 r,.int .i64 d] Ty)):=
 ⟨h.went (boxed _ _),bg rfl rfl,bg rfl rfl,fun e=>Nat.lt_irrefl _ (h.bK _ e),by simp,.of_below (boxed _ _),.refl _ _⟩
theorem LS.went(h:LS W K G q S w0 r d N T w)(hb:Below w.heap.size w w'):LS W K G q S w0 r d N T w':=
 ⟨h.at_.went hb,cell_later hb h.x0,cell_later hb h.x1,h.off,Nat.lt_of_lt_of_le h.lt hb.size,h.fr.trans (.of_below hb) h.ext,h.ext⟩
theorem LS.turn(h:LS W K G q S w0 r d N T w)(hM:gM W K G q M U w')(f:Sep.Fr T w w')(x:Sep.Ext U T w):LS W K G q S w0 r d M U w':=
 ⟨hM,f.cell h.x0 h.off,f.cell h.x1 h.off,fun e=>by
  rcases x _ e with e|e
  ·exact h.off e
  ·have:=h.lt
   omega,Nat.lt_of_lt_of_le h.lt f.size,h.fr.trans f h.ext,h.ext.trans x h.fr.size⟩
theorem LS.fix(h:LS W K G q S w0 r d N T w)(FX:Fix W K G q):fF K G q w:=FX.at_ w h.at_.fr
theorem LS.eight(h:LS W K G q S w0 r d N T w):w.cell? ⟨K.p,0,none⟩=some (.slice K.aS (states q).length K.cS)/\w.cell? ⟨K.p,2,none⟩=some (.slice (some ⟨K.bR,0,none⟩) (G.rules.length+1) K.cR)/\w.cell? ⟨K.p,3,none⟩=some (.slice (some ⟨K.bB,0,none⟩) (top G+1) K.cB)/\w.cell? ⟨K.p,4,none⟩=some (.slice (some ⟨K.bT,0,none⟩) (G.rules.length+1) K.cT):=by
 obtain⟨lab,cv,qv,k,_⟩:=h.at_
 obtain⟨h0,_,h2,h3,h4,_⟩:=k.eight;exact⟨h0,h2,h3,h4⟩
end
def Linked(W:World)(K:Fk)(G:ai)(q:Whole)(N:Nt)(cnt:Nat)(i:Nat)(x:au)(S:Nat->Prop)(w:World)(e:Ending)(w':World):Prop:=
 e=.returned (.tuple #[])/\∃M T,gM W K G q M T w'/\Sep.Fr S w w'/\Sep.Ext T S w/\ir G q M (cnt+2)/\oM N M/\nT G q M i x
end Lk
namespace Lk
open Gr (ai aN drawn ax cN top)
open Im
open Au
theorem zQj{W:World}{K:Fk}{G:ai}{q:Whole}{N:Nt}{S:Nat->Prop}(FX:Fix W K G q)(w:World)(h:gM W K G q N S w){cnt:Nat}(hL:ir G q N cnt)(Bv:cnt<=100000000)(i:Nat)(hi:i<q.1.length)(x:au)(hx:cM G (bp q.1 i) x):
  Calls Tryz.prog 114 #[.pointer (some ⟨K.p,0,none⟩),.int .i64 (i:Int),iv x] w (Linked W K G q N cnt i x S w):=by
 have pQ:=oF hx;obtain⟨r,d⟩:=x;obtain⟨⟨r0,r1⟩,d0,d1⟩:=iD.1 pQ;dsimp only at r0 r1 d0 d1;obtain⟨r,rfl⟩:=Int.eq_ofNat_of_zero_le r0;obtain⟨d,rfl⟩:=Int.eq_ofNat_of_zero_le d0;have hrl:cQ G (r:Int)=(ax G (r:Int)).2.length:=rfl;rw[hrl]at d1;have L0:=af (LS.start h (r:Int) (d:Int) 181);have SM:=Fi.jq FX.ok;have hT:G.terms.length<=1000:=by have:=SM.t;omega
 have hR:=SM.r;have hr:r<=G.rules.length:=by omega
 have ij:cN G (r:Int)=true:=by unfold cN;exact decide_eq_true ⟨r0,r1⟩
 have Gi:(r:Int)<((G.rules.length+1:Nat):Int):=by omega
 have hq:=FX.len;have RL:=af (fun w1 (F:fF K G q w1)=>F.rules r hr);have hrs:=D7 FX.ok (r:=r) hr;rw[hrl]at hrs;have hi2:i<=1000000:=by omega
 by_cases hdd:d<(ax G (r:Int)).2.length
 ·obtain⟨hb,Rh⟩:=si ij hdd;obtain⟨s1,s2⟩:=uA FX.ok ij hdd;obtain⟨j,hj,hgo,hst⟩:=zM1 FX.done FX.ok hi hx hb;rw[Rh]at hgo;obtain⟨s,hs⟩:=Int.eq_ofNat_of_zero_le (show 0<=(ax G (r:Int)).2[d]by omega);have KV:s<=top G:=by omega
  have hil:i<(states q).length:=by rw[rD FX.done.all];exact hi
  have hgs:p8 (states q) (i:Int) (s:Int)=(j:Int):=by
   rw[Hi hil,←hgo,←hs];have:=zT FX.done.all hi;rw[List.getElem?_eq_getElem hil]at this;injection this with this
   rw[this]
  have RS:=af (show∀w1,fF K G q w1->∃a c b o,w1.cell? ⟨K.bR,r*2+1,none⟩=some (.slice a (ax G (r:Int)).2.length c)/\a=some ⟨b,o,none⟩/\w1.cell? ⟨b,o+d,none⟩=some (.int .i64 (s:Int))from fun w1 F=>by
   obtain⟨a,c,_,f2,f3⟩:=F.rules r hr;obtain⟨b,o,e,f4⟩:=f3 d (by simpa[aN]using hdd);refine⟨a,c,b,o,f2,e,?_⟩;rw[f4]
   simp[aN,Gr.iv,hs])
  have hX1:=zUI (G:=G) (x:=((r:Int),(d:Int))) ij;have J6:=zOg pQ;have C1:=af (fun w1 (l:LS W K G q S w (r:Int) (d:Int) N S w1)=>Ei FX w1 l.at_ (Nat.le_trans (yu FX.ok hL.lk hq) (by omega)) hT i r (d:Int) hi2 hr (by omega) (by omega) (by omega));have C2:=af (fun N1 T1 w1 (l:LS W K G q S w (r:Int) (d:Int) N1 T1 w1) (k:ir G q N1 cnt)=>Ei FX w1 l.at_ (Nat.le_trans (yu FX.ok k.lk hq) (by omega)) hT j r ((d:Int)+1) (by omega) hr (by omega) (by omega) (by omega));rw[uE (show((r:Int),((d:Int)+1)).2≠0 from by dsimp only;omega)]at C2
  have GO:=af (fun w1 (F:fF K G q w1)=>(show Calls Tryz.prog 99 #[.slice K.aS (states q).length K.cS,.int .i64 (i:Int),.int .i64 (s:Int)] w1 (Gr.Is (.int .i64 (j:Int)) w1)from by
   have:=Na (states q) K.aS K.cS (i:Int) (s:Int) w1 F.Gs FX.small;rw[hgs]at this
   exact this))
  have I1:=af (fun N1 {P:Prop} hM=>hL.of_cell (M:=N1) (P:=P) hi hX1 J6 hM);have hwrap:IntKind.i64.wrap ((d:Int)+1)=(d:Int)+1:=IntWalk.i64_in _ (by omega);have Rk:(d:Int)<((ax G (r:Int)).2.length:Int):=by omega
  have aa4:¬d=(ax G (r:Int)).2.length:=by omega
  generalize tT:rep G ((r:Int),(d:Int))=X1 at*;unfold iv;dsimp only;go_enter Tryz.func114,Tryz.ntmps114;go_wp2_with fail;generalize w.alloc (.cells #[.int .i64 (r:Int),.int .i64 (d:Int)] 181)=w1 at*;obtain⟨p0,p2,p3,p4⟩:=L0.out.eight;have x0:=L0.out.x0;have x1:=L0.out.x1;obtain⟨aR,cR,bR,oR,f1,rfl,f2⟩:=RS.out w1 (L0.out.fix FX);go_region;have LD:=af (L0.out.went (drawn w1));go_wp2_with (go_at_call 116;(with_reducible refine(C1.out _ LD.out).mono ?_);rintro e w2 ⟨k1,N1,rfl,hk1,QP,T1,Cm,d9,Rm⟩;obtain⟨QI,JU⟩:=I1.out N1 QP;have L1:=af (LD.out.turn Cm d9 Rm);have PO:=af QI;have PK:=af JU;have K1:=af hk1;obtain⟨q0,q2,q3,q4⟩:=L1.out.eight;have y0:=L1.out.x0;have y1:=L1.out.x1;clear Cm d9 Rm QI JU QP hk1);have Jh:=af (L1.out.went (drawn w2));have PI:=af (fun N2 {P:Prop} hM=>PO.out.of_cell (M:=N2) (i:=j) (X:=((r:Int),(d:Int)+1)) (P:=P) hj (uE (by dsimp only;omega)) ((FX.done.ok.good _ (ux hj)).2.2 _ hst) hM);have kc1:w2.drew.cell? ⟨K.p,0,none⟩=some (.slice K.aS (states q).length K.cS)/\w2.drew.cell? ⟨w.heap.size,0,none⟩=some (.int .i64 (r:Int))/\w2.drew.cell? ⟨w.heap.size,1,none⟩=some (.int .i64 (d:Int)):=⟨q0,y0,y1⟩;have hbs:aQ G ((r:Int),(d:Int))=(s:Int):=Rh.trans hs;rw[hs]at hgo;have LB:=af (fun w1 (F:fF K G q w1)=>F.qM s KV)
  have TL:=af (fun w1 (F:fF K G q w1)=>(show∃a c b,w1.cell? ⟨K.bT,r,none⟩=some (.slice a (ax G (r:Int)).2.length c)/\a=some ⟨b,0,none⟩/\w1.cell? ⟨b,d*2,none⟩=some (.pointer (some ⟨K.tP r d,0,none⟩))/\w1.cell? ⟨b,d*2+1,none⟩=some (.bool (OV G r d))from by
   obtain⟨a,c,f1,f2⟩:=F.tails r hr;obtain⟨b,e,g1,g2,_⟩:=f2 d hdd
   exact⟨a,c,b,f1,e,g1,g2⟩))
  have C3:=af (fun(M:Nt) U w1 (l:LS W K G q S w (r:Int) (d:Int) M U w1) (c2:Nat) (k:ir G q M c2) (hc2:c2<=100000002) (kk:Nat) (hkk:kk<M.ak.length) (y:Way) (hy:oc K G y)=>zQe w1 l.at_ (k:=kk) hkk (Nat.le_trans (yu FX.ok k.lk hq) (by omega)) hy (Nat.le_trans (k.ys kk hkk) (by omega)));have C4:=af (fun(M:Nt) U w1 (l:LS W K G q S w (r:Int) (d:Int) M U w1) (c2:Nat) (k:ir G q M c2) (k0:Nat) (h0:k0<=G.rules.length)=>Ei FX w1 l.at_ (Nat.le_trans (yu FX.ok k.lk hq) (by omega)) hT i k0 (0:Int) hi2 h0 (by omega) (by omega) (by omega));have OK:=af (zWf K G);have IK:=af (zWV K G hr hdd)
  have HX:=af (show∀M y,ir G q M cnt->(∃k2,M.ak[k2]?=some (j,((r:Int),(d:Int)+1))/\y=oD k2)->sZ G q M.ak i ((r:Int),(d:Int)) y from fun M y _ ⟨k2,h1,h2⟩=>by
   subst h2
   exact .inl ⟨j,by rw[hbs];exact hgo,h1,OU k2⟩)
  have HY:=af (show∀(M:Nt) k4,M.ak[k4]?=some (i,hd G (s:Int))->eI G (s:Int)≠[]->sZ G q M.ak i ((r:Int),(d:Int)) (uh K G r d k4)from fun M k4 h1 h2=> .inr ⟨by rw[hbs];exact h2,by rw[hbs];exact h1,Zj K G r d k4⟩)
  go_region_held3 (fun w'=>w'.cell? ⟨K.p,0,none⟩=some (.slice K.aS (states q).length K.cS)/\w'.cell? ⟨w.heap.size,0,none⟩=some (.int .i64 (r:Int))/\w'.cell? ⟨w.heap.size,1,none⟩=some (.int .i64 (d:Int)))
   (assumption)
   (first
    |(go_at_call 99;(with_reducible refine(GO.out _ (Jh.out.fix FX)).mono ?_);rintro e w3 ⟨rfl,hb3⟩;have L2:=af (Jh.out.went hb3);have kc2:w3.cell? ⟨K.p,0,none⟩=some (.slice K.aS (states q).length K.cS)/\w3.cell? ⟨w.heap.size,0,none⟩=some (.int .i64 (r:Int))/\w3.cell? ⟨w.heap.size,1,none⟩=some (.int .i64 (d:Int)):=⟨L2.out.eight.1,L2.out.x0,L2.out.x1⟩;clear hb3)
    |(go_at_call 116;(with_reducible refine(C2.out N1 T1 _ L2.out PO.out).mono ?_);rintro e w4 ⟨k2,N2,rfl,hk2,QR,T2,Ry,hf2,FV⟩;obtain⟨QJ,A7⟩:=PI.out N2 QR;have L3:=af (L2.out.turn Ry hf2 FV);have kc3:w4.cell? ⟨K.p,0,none⟩=some (.slice K.aS (states q).length K.cS)/\w4.cell? ⟨w.heap.size,0,none⟩=some (.int .i64 (r:Int))/\w4.cell? ⟨w.heap.size,1,none⟩=some (.int .i64 (d:Int)):=⟨L3.out.eight.1,L3.out.x0,L3.out.x1⟩;have Jf:=af QJ;have Je:=af A7;have K2:=af hk2;clear Ry hf2 FV QJ A7 QR hk2)
    |fail)
  have Fv:=af (Je.out.ak _ _ K1.out);have BZ:=nE Fv.out;have LE:=af (C3.out N2 T2 w4 L3.out cnt Jf.out (by omega) k1 BZ (oD k2) (OK.out k2));have I3:=af (fun v=>Jf.out.lead (y:=oD k2) (by rw[Fv.out,tT]) hx hb (HX.out N2 _ Jf.out ⟨k2,K2.out,rfl⟩) v);clear kc1 kc2 kc3 Jh LD L0 C1 C2 I1 PI GO RS f1 f2 x0 x1 y0 y1 p0 p2 p3 p4 q0 q2 q3 q4;unfold oD at LE;dsimp only at LE
  by_cases hB:eI G (s:Int)=[]
  ·rw[hB]at LB;go_wp2_with (go_at_call 138;(with_reducible refine(LE.out).mono ?_);rintro e w5 ⟨rfl,v,T3,ot,hf3,BJ⟩;have L4:Hid (LS W K G q S w (r:Int) (d:Int) (N2.lead k1 (oD k2) v) T3 w5):=af (L3.out.turn ot hf3 BJ);obtain⟨_,_,q3,_⟩:=L4.out.eight;obtain⟨aB,cB,g1,_⟩:=LB.out w5 (L4.out.fix FX);clear ot hf3 BJ);refine bodyPost_ret (v:=.tuple #[]) (by simp[results,Tryz.results114,go_sem]) rfl ?_;refine⟨rfl,_,T3,L4.out.at_,L4.out.fr,L4.out.ext,(I3.out v).mono (by omega),(PK.out.trans Je.out).trans (N2.gD k1 _ v),fun _=>⟨k1,by rw[tT];exact Fv.out,⟨j,by rw[hbs];exact hgo,oD k2,N2.iZ k1 (oD k2) v,K2.out,OU k2⟩,fun e=>absurd (by rw[hbs];exact hB) e⟩⟩
  ·have hpos:0<(eI G (s:Int)).length:=List.length_pos_iff.2 hB;have rX:=rE.1 (head_ne hB);have ua:=Hp (head_ne hB);have C5:=af (fun(M:Nt) U w1 (l:LS W K G q S w (r:Int) (d:Int) M U w1) (c2:Nat) (k:ir G q M c2)=>C4.out M U w1 l c2 k _ rX.1);rw[ua]at C5
   have ZX:=af (show∀w1,fF K G q w1->∃b o c,w1.cell? ⟨K.bB,s,none⟩=some (.slice (some ⟨b,o,none⟩) (eI G (s:Int)).length c)/\w1.cell? ⟨b,o,none⟩=some (.int .i64 (((eI G (s:Int)).headD 0:Nat):Int))from fun w1 F=>by
    obtain⟨aB,cB,g1,g2⟩:=LB.out w1 F;obtain⟨b,o,rfl,g3⟩:=g2 0 (by rw[Hn];exact hpos);rw[Vk]at g3
    exact⟨b,o,cB,g1,g3⟩)
   have hdr:=Wj hB;have Rl:=Yy hB;have ZO:=af (fun(N3 M:Nt) (c2:Nat) (k:ir G q N3 c2) {P:Prop} hM=>k.of_cell (M:=M) (i:=i) (X:=hd G (s:Int)) (P:=P) hi Rl hdr hM);generalize (eI G (s:Int)).headD 0=k0 at*;generalize J0:(eI G (s:Int)).length=LL at*;clear LB C4 rX ua
   go_wp2_with (first
    |(go_at_call 138;(with_reducible refine(LE.out).mono ?_);rintro e w5 ⟨rfl,v,T3,ot,hf3,BJ⟩;have L4:Hid (LS W K G q S w (r:Int) (d:Int) (N2.lead k1 (oD k2) v) T3 w5):=af (L3.out.turn ot hf3 BJ);obtain⟨_,_,q3,_⟩:=L4.out.eight;obtain⟨b5,o5,c5,g1,g2⟩:=ZX.out w5 (L4.out.fix FX);have PH:=af (I3.out v);clear ot hf3 BJ)
    | (go_at_call 116;(with_reducible refine(C5.out (N2.lead k1 (oD k2) v) T3 w5 L4.out (cnt+1) PH.out).mono ?_);rintro e w6 ⟨k4,N4,rfl,hk4,QS,T4,Rz,vq,FY⟩;obtain⟨QK,QH⟩:=ZO.out _ N4 (cnt+1) PH.out QS;have L5:=af (L4.out.turn Rz vq FY);have PQ:=af QK;have Fw:=af QH;have K4:=af hk4;obtain⟨_,_,_,r4⟩:=L5.out.eight;have z0:=L5.out.x0;have z1:=L5.out.x1;obtain⟨a6,c6,b6,t1,rfl,t2,t3⟩:=TL.out w6 (L5.out.fix FX);clear Rz vq FY QK QH QS hk4))
   have Jd:=af (Fw.out.ak _ _ ((N2.gD k1 (oD k2) v).ak _ _ Fv.out));have Ca:=nE Jd.out;have L6:=af (L5.out.went (drawn w6));have LF:=af (C3.out N4 T4 w6.drew L6.out (cnt+1) PQ.out (by omega) k1 Ca (uh K G r d k4) (IK.out k4));unfold uh at LF;dsimp only at LF;have hrn:(r:Int)<(G.rules.length:Int)+1:=by omega
   go_region_law (first
    |(go_simp;go_at_call 138;(with_reducible refine(LF.out).mono ?_);rintro e w7 ⟨rfl,v2,T5,Cn,ng,oo⟩;have L7:Hid (LS W K G q S w (r:Int) (d:Int) (N4.lead k1 (uh K G r d k4) v2) T5 w7):=af (L6.out.turn Cn ng oo);clear Cn ng oo)
    |fail)
   all_goals
    go_wp2_with fail;refine bodyPost_ret (v:=.tuple #[]) (by simp[results,Tryz.results114,go_sem]) rfl ?_;have g5:=N4.gD k1 (uh K G r d k4) v2;refine⟨rfl,_,T5,L7.out.at_,L7.out.fr,L7.out.ext,PQ.out.lead (y:=uh K G r d k4) (by rw[Jd.out,tT]) hx hb (HY.out N4 k4 K4.out hB) v2,((PK.out.trans Je.out).trans (N2.gD k1 _ v)).trans (Fw.out.trans g5),fun _=>⟨k1,by rw[tT];exact Jd.out,⟨j,by rw[hbs];exact hgo,oD k2,g5.ys k1 Ca _ (Fw.out.ys k1 BZ _ (N2.iZ k1 (oD k2) v)),Fw.out.ak _ _ K2.out,OU k2⟩,fun _=>⟨uh K G r d k4,N4.iZ k1 _ v2,by rw[hbs];exact K4.out,Zj K G r d k4⟩⟩⟩
 ·have hE:d=(ax G (r:Int)).2.length:=by omega
  have hb:aZ G ((r:Int),(d:Int))=false:=by
   cases e:aZ G ((r:Int),(d:Int))with
   |false=>rfl
   |true=>
    have:=(kx.1 e).2;dsimp only at this;omega
  generalize (ax G (r:Int)).2.length=n at*;subst hE;unfold iv;dsimp only;go_enter Tryz.func114,Tryz.ntmps114;go_wp2_with fail;generalize w.alloc (.cells #[.int .i64 (r:Int),.int .i64 (d:Int)] 181)=w1 at*;obtain⟨p0,p2,p3,p4⟩:=L0.out.eight;have x0:=L0.out.x0;have x1:=L0.out.x1;obtain⟨aR,cR,_,f1,_⟩:=RL.out w1 (L0.out.fix FX);go_region;go_wp2_with fail;refine bodyPost_ret (v:=.tuple #[]) (by simp[results,Tryz.results114,go_sem]) rfl ?_;have LD:=L0.out.went (drawn w1);exact⟨rfl,N,S,LD.at_,LD.fr,LD.ext,hL.mono (by omega),.refl _,fun e=>by rw[hb]at e;cases e⟩
