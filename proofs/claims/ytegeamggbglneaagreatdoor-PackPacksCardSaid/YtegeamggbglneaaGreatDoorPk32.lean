/- A part of the proof. -/
import Derived.Test.YtegeamggbglneaaGreatDoorPk23
import Derived.Test.YtegeamggbglneaaGreatDoorPk13
import Derived.Test.YtegeamggbglneaaGreatDoorPk31
set_option maxHeartbeats 8000000
set_option maxRecDepth 100000
set_option linter.unusedVariables false
namespace Go.Proofs.YtegeamggbglneaaGreatDoor
open Go.RowKit Go.Maps
namespace Lk
open Gr (Gram cell_later zAC boxed drawn step top)
open Im
open Au
open Rw (zAN)
def zMB(L:List Itm)(w:World)(e:Ending)(w':World):Prop:=∃a c,e=.returned (.slice a L.length c)/\ItsV 181 w.heap.size L (.slice a L.length c) w'/\Below w.heap.size w w'
theorem zFx(w):(Instr.buildSlice 169 0 #[]).run Tryz.prog w=.ok (.slice (some ⟨w.heap.size,0,none⟩) 0 0) (w.alloc (.cells #[] 181)):=by kernel_rfl
theorem zMc(a:Option Addr)(l:List Itm)(c:Nat)(w:World)(h:ItsA a l w)(hl:l.length<=1000000):
  Calls Tryz.prog 137 #[.slice a l.length c] w (zMB l w):=by
 obtain⟨i0,hi,hz0,hz1,hz2⟩:=info_parts zDm;cases a with
 |none=>
  have h0:l=[]:=by
   rcases l with _|⟨x,l⟩
   ·rfl
   ·obtain⟨_,_,e,_⟩:=h 0 (by rw[zAe];simp);cases e
  subst h0;have hn:=Lib.run_eql_slice_nil (P:=Tryz.prog);go_enter Tryz.func137,Tryz.ntmps137;go_wp2;go_ret;exact⟨Option.none,_,rfl,ItsV.nil _ _ _,.refl _ _⟩
 |some x=>
  have HB:=zV7 (fun v (w1 w2:World) (h1:w2.ownsRow w.heap.size 181 2 v (0+l.length) ([]++l.flatMap ic)) (h2:(w.alloc (.cells #[] 181)).grownBy w2 (some w.heap.size))=>show zMB l w (.returned v) w2 from by
   rw[Nat.zero_add,List.nil_append]at h1;obtain⟨a',c',rfl⟩:=Rw.zAG h1
   exact⟨a',c',rfl,h1,((Below.refl _ _).alloc (Nat.le_refl _) _).grown h2 (by simp) fun k hk=>by injection hk with hk;omega⟩)
  have HO:=zV7 (World.ownsRow_made (base:=w.heap.size) (e:=181) (size:=2) w #[] 0 (Nat.le_refl _) (by simp) (by simp));have hll:=zAe l
  have HN:=zV7 (show∀(j:Nat) (u:Value),(l.flatMap ic)[j]?=some u->(w.alloc (.cells #[] 181)).cell? (x.add j)=some u from fun j u hj=>by
   obtain⟨hj1,rfl⟩:=List.getElem?_eq_some_iff.1 hj;obtain⟨b,o,e,hc⟩:=h j hj1;injection e with e
   subst e;rw[WideShapes.add_plain]
   exact cell_later (boxed _ _) hc)
  have HL:=zV7 (zS1 l);clear h;have hn:=Lib.run_eql_slice_nil (P:=Tryz.prog);have hb:=zFx;go_enter Tryz.func137,Tryz.ntmps137;go_wp2_with (at_builtin;refine wpList_append_own_at _ rfl _ _ 169 rfl w.heap.size 181 i0 (.agg #[.int .i64 0,.int .i64 0]) 2 16 Tryz.underlying169 hi hz0 hz1 hz2 rfl (by decide) _ _ _ rfl HO.out x l.length c (l.flatMap ic) rfl (by omega) HN.out HL.out (by unfold maxLen;omega) (by omega) (by simp) ?_;intro v' w2 hown2 hg2 _ _;have HE:=zV7 (HB.out v' w w2 hown2 hg2);clear hown2 hg2);go_ret;exact HE.out
def opn(B:List Nat)(m:Nat):List Itm:=(B.take m).map fun k:Nat=>((k:Int),0)
theorem zKO(B):opn B 0=[]:=by simp[opn]
theorem zQh{B}{m}(h):opn B (m+1)=opn B m++[((B[m]:Int),0)]:=by
 unfold opn;rw[List.take_succ_eq_append_getElem h,List.map_append]
 rfl
def cloJ(G:Gram)(Ki:List Itm)(Ti:List (Int×Int))(j:Nat):List Itm:=cloL G Ki ((Ti.take j).map Prod.fst)
theorem zE8(G)(Ki)(Ti):cloJ G Ki Ti 0=Ki:=by simp[cloJ,cloL]
theorem zMZ{G}{Ki}{Ti}{j}(h):cloJ G Ki Ti j++opn (byL G Ti[j].1) (byL G Ti[j].1).length=cloJ G Ki Ti (j+1):=by
 unfold cloJ cloL opn;rw[List.take_succ_eq_append_getElem h,List.map_append,List.flatMap_append,List.take_length,List.append_assoc];simp
theorem zNz(B)(m):(opn B m).length<=m:=by
 unfold opn;rw[List.length_map,List.length_take];omega
theorem zFB{W:World}{K:Fk}{G:Gram}{q:Whole}{N:Nt}{S:Nat->Prop}(FX:Fix W K G q)(w:World)(h:NAt W K G q N S w)(i:Nat)(hi:i<q.1.length):
  Calls Tryz.prog 113 #[.pointer (some ⟨K.p,0,none⟩),.int .i64 (i:Int)] w (zMB (cloL G (zAK q.1 i) (zB7 q i)) w):=by
 obtain⟨lab,cv,qv,h,_⟩:=h;have hsi:=zCO FX.done.all hi;have hil:i<(states q).length:=by rw[zAv FX.done.all];exact hi
 have F:=zV7 (fun w1 (b:Below w.heap.size w w1)=>FX.at_ w1 (h.went b).fr);have P:=zV7 (fun w1 (b:Below w.heap.size w w1)=>(h.went b).eight);obtain⟨b,o,a1,c1,a2,c2,e,d0,d1,d2,d3,_,_⟩:=(F.out w (.refl _ _)).sts i hil
 have es:(states q)[i]=(zAK q.1 i,q.2.getD i []):=by
  rw[List.getElem?_eq_getElem hil]at hsi;injection hsi
 have hm:=List.getElem_mem hil;have sK:=FX.small.items _ hm;have sT:=FX.small.trans _ hm;rw[es]at d0 d1 d2 d3 sK sT;dsimp only at d0 d1 d2 d3 sK sT;have hR:=(Fi.zBG FX.ok).r
 have hsym:∀s∈zB7 q i,∃m:Nat,m<=top G/\s=(m:Int):=fun s hs=>by
  obtain⟨m,h1,h2,_⟩:=(zEv FX.done hi).1 hs;exact⟨m+1,h1,h2⟩
 have SY:=zV7 hsym;obtain⟨p0,_,_,p3,_,_,_,_⟩:=P.out w (.refl _ _)
 have eL:cloL G (zAK q.1 i) (zB7 q i)=cloJ G (zAK q.1 i) (q.2.getD i []) (q.2.getD i []).length:=by
  unfold cloJ zB7;rw[List.take_length]
 rw[eL];unfold zB7 at SY;generalize zAK q.1 i=Ki at*;generalize q.2.getD i []=Ti at*;have D2:=zV7 d2;have D3:=zV7 d3;clear d2 d3 hsi es hm hsym eL h hi;obtain⟨i0,hj,hz0,hz1,hz2⟩:=info_parts zDm;have CL:=zV7 (zMc a1 Ki c1 w D2.out sK);rw[e]at p0;have hil2:(i:Int)<((states q).length:Int):=by omega
 go_enter Tryz.func113,Tryz.ntmps113;go_wp2_with (go_at_call 137;refine CL.out.mono ?_;rintro e w1 ⟨a3,c3,rfl,h1,h2⟩;have V1:=zV7 h1;have B1:=zV7 h2;have p01:=cell_later h2 p0;have d11:=cell_later h2 d1;clear h1 h2);go_loopw [5,28] (fun v t wr=>∃(j:Nat) (a:Option Addr) (c:Nat),t=.int .i64 j/\j<=Ti.length/\v=.slice a (cloJ G Ki Ti j).length c/\(cloJ G Ki Ti j).length<=1000000+j*1000/\ItsV 181 w.heap.size (cloJ G Ki Ti j) v wr/\Below w.heap.size w wr) (fun _ t _=>Ti.length-(intOf t).toNat)
 case atStart=>exact⟨0,a3,c3,rfl,Nat.zero_le _,by rw[zE8],by rw[zE8];omega,by rw[zE8];exact V1.out,B1.out⟩
 case round=>
  obtain⟨j,a,c,rfl,hj1,rfl,hlen,hV,hB⟩:=hrel;have V:=zV7 hV;have B:=zV7 hB;clear hV hB V1 B1 p01 d11
  by_cases hlt:j<Ti.length
  ·obtain⟨b2,o2,e2,t0,t1⟩:=(D3.out.went B.out).at j hlt;obtain⟨s,hs1,hs2⟩:=SY.out _ (List.mem_map.2 ⟨_,List.getElem_mem hlt,rfl⟩);have SU:=zV7 (zMZ (G:=G) (Ki:=Ki) hlt);subst e2;obtain⟨aB,cB,f20,f3⟩:=(F.out w (.refl _ _)).lefts s (by omega);have f2:=cell_later B.out f20;obtain⟨_,_,_,p3r,_,_,_,_⟩:=P.out wr B.out;have hBl:=zJs G (Ti[j].1) (G.rules.length+1);have RB:=zV7 f3;rw[←hs2]at f2 RB;rw[hs2]at t0;rw[show byTo G (Ti[j].1) (G.rules.length+1)=byL G Ti[j].1 from rfl]at hBl;generalize Ti[j].1=sy at*;generalize Ti[j].2=ty at*;generalize hBB:byL G sy=BB at*;generalize hCj:cloJ G Ki Ti j=Cj at*;have bx:Below wr.heap.size wr (wr.alloc (.cells #[.int .i64 (s:Int),.int .i64 ty] 197)):=boxed _ _;have x0:(wr.alloc (.cells #[.int .i64 (s:Int),.int .i64 ty] 197)).cell? ⟨wr.heap.size,0,none⟩=some (.int .i64 (s:Int)):=zAC rfl rfl;have y3:=cell_later bx p3r;have y2:=cell_later bx f2;have V2:=zV7 ((V.out.went bx).went (drawn _));have B2:=zV7 (Gr.step (Gr.step B.out bx) (drawn _));have hsx:(s:Int)<((top G+1:Nat):Int):=by omega
   have hsx0:(0:Int)<=(s:Int):=by omega
   clear f3 f20 hBB;go_wp2_with fail;generalize wr.alloc (.cells #[.int .i64 (s:Int),.int .i64 ty] 197)=wx at*;go_region;generalize wx.drew=wy at*;go_wp2_with fail;go_loopw [5,41] (fun v t wz=>∃(m:Nat) (a:Option Addr) (c:Nat),t=.int .i64 m/\m<=BB.length/\v=.slice a (Cj++opn BB m).length c/\ItsV 181 w.heap.size (Cj++opn BB m) v wz/\Below w.heap.size w wz) (fun _ t _=>BB.length-(intOf t).toNat)
   case atStart=>exact⟨0,a,c,rfl,Nat.zero_le _,by rw[zKO,List.append_nil],by rw[zKO,List.append_nil];exact V2.out,B2.out⟩
   case round=>
    obtain⟨m,a9,c9,rfl,hm1,rfl,hV9,hB9⟩:=hrel;have V9:=zV7 hV9;have B9:=zV7 hB9;clear hV9 hB9 V2 B2 V B
    by_cases hmt:m<BB.length
    ·obtain⟨b4,o4,rfl,hc4⟩:=(RB.out.below B9.out (Nat.le_refl _)) m (by rw[zEw];exact hmt);have hc5:wr.cell? ⟨b4,o4+m,none⟩=some (.int .i64 (BB[m]:Int)):=by simpa[nivs]using hc4
     have OE:=zV7 (zQh hmt);have hol:=zNz BB m;have hlm:(Cj++opn BB m).length<=1000000+j*1000+m:=by rw[List.length_append];omega
     generalize BB[m]=kk at*;have hsz:w.heap.size<=wr.heap.size:=B9.out.size;have bl:=boxed wr (.cells #[.int .i64 (kk:Int),.int .i64 0] 181);have VX:=zV7 (V9.out.went bl);have BX:=zV7 (Gr.step B9.out bl);have hszx:=BX.out.size;have ON:=zV7 (zEs 181 w.heap.size wr.heap.size ((kk:Int),0) wr rfl hsz);have hrl:=zV7 (fun g hg=>(World.ownsRow.lt V9.out g hg).1);have EE:=zV7 (show(Cj++opn BB m)++[((kk:Int),0)]=Cj++opn BB (m+1)from by rw[OE.out,List.append_assoc]);generalize hCC:Cj++opn BB m=CC at*;have KR:=zV7 (fun(w2:World) (hg:(wr.alloc (.cells #[.int .i64 (kk:Int),.int .i64 0] 181)).grownBy w2 (Value.slice a9 CC.length c9).ownBlock)=>(show Below w.heap.size w w2 from BX.out.trans (zA5 hg hszx hrl.out)));clear V9 B9 hc4 bl hrl hCC OE;go_wp2_with (at_builtin;refine zAN _ rfl _ _ 169 rfl w.heap.size 181 i0 (.agg #[.int .i64 0,.int .i64 0]) 2 16 Tryz.underlying169 hj hz0 hz1 hz2 rfl (by decide) (.slice a9 CC.length c9) CC.length (CC.flatMap ic) rfl VX.out w.heap.size _ 1 (ic ((kk:Int),0)) rfl ON.out (zM7 _) (by unfold maxLen;omega) (by omega) hszx ?_;intro v' w' hown hg _;have V2:=zV7 (ItsV.of_append (Y:=[((kk:Int),0)]) (by simpa using hown) rfl rfl);have W2:=zV7 (KR.out w' hg);obtain⟨a7,c7,rfl⟩:=Rw.zAG hown;clear hown hg);go_roundw
     case rel=>exact⟨m+1,a7,c7,by go_num,by omega,by rw[←EE.out];simp,by rw[←EE.out];simpa using V2.out,W2.out⟩
     case measure=>simp[intOf];omega
    ·have hE:m=BB.length:=by omega
     subst hE;rw[SU.out]at V9;have hol:=zNz BB BB.length;have hlm:(cloJ G Ki Ti (j+1)).length<=1000000+(j+1)*1000:=by rw[←SU.out,List.length_append];omega
     rw[SU.out];go_wp2;go_roundw
     case rel=>exact⟨j+1,a9,c9,by go_num,by omega,rfl,hlm,V9.out,B9.out⟩
     case measure=>simp[intOf];omega
  ·have hE:j=Ti.length:=by omega
   subst hE;go_wp2;go_ret;exact⟨a,c,rfl,V.out,B.out⟩
end Lk
namespace Lk
open Gr (Gram cell_later zAC boxed zAF top checkN)
open Im
open Au
open Fi (zAg allC canB fstB zCG zBV zDi zCQ zDG)
theorem zQC{G}{l}{t}:zAg (canB G) (fstB G) l t=true↔zDG G l t:=by
 rw[zCG];constructor
 ·rintro⟨pre,y,post,h1,h2,h3⟩;exact⟨pre,y,post,h1,fun z hz=>zBV.1 (h2 z hz),zDi.1 h3⟩
 ·rintro⟨pre,y,post,h1,h2,h3⟩;exact⟨pre,y,post,h1,fun z hz=>zBV.2 (h2 z hz),zDi.2 h3⟩
structure LkI (G:Gram) (q:Whole) (N:Nt) (cnt:Nat):Prop where
 lk:Lk1 G q N
 frs:∀k,k<N.pls.length->(∀t,N.S k t=false)/\N.Wt k=false
 qs:N.qs=[]
 ys:∀k,k<N.pls.length->(N.Ys k).length<=cnt
theorem LkI.mono{G}{q}{N}{c c'}(h:LkI G q N c)(hc:c<=c'):LkI G q N c':=⟨h.lk,h.frs,h.qs,fun k hk=>Nat.le_trans (h.ys k hk) hc⟩
theorem LkI.cell{G}{q}{N}{cnt}(h:LkI G q N cnt){i}{c}(hn:(i,c)∉N.pls)(hi:i<q.1.length)(hc:rep G c=c)(hr:zAI G c=true)(d e):LkI G q (N.cell (i,c) d e) cnt:=by
 have hl:(N.cell (i,c) d e).pls.length=N.pls.length+1:=by
  show(N.pls++[(i,c)]).length= _;simp
 refine⟨h.lk.cell hn hi hc hr d e,fun k hk=>?_,h.qs,fun k hk=>?_⟩
 ·rw[hl]at hk;show(∀t,upd N.S N.pls.length (fun _=>false) k t=false)/\upd N.Wt N.pls.length false k=false
  by_cases e:k=N.pls.length
  ·subst e;rw[upd_same,upd_same];exact⟨fun _=>rfl,rfl⟩
  ·rw[zAB e,zAB e];exact h.frs k (by omega)
 ·rw[hl]at hk;show(upd N.Ys N.pls.length [] k).length<=cnt
  by_cases e:k=N.pls.length
  ·subst e;rw[upd_same];exact Nat.zero_le _
  ·rw[zAB e];exact h.ys k (by omega)
theorem LkI.lead{G}{q}{N}{cnt}(h:LkI G q N cnt){k i:Nat}{x}(hk:N.pls[k]?=some (i,rep G x))(hx:Clo G (zAK q.1 i) x)(hb:behB G x=true){y}(hy:zHW G q N.pls i x y)(v):LkI G q (N.lead k y v) (cnt+1):=by
 refine⟨h.lk.lead hk hx hb hy v,h.frs,h.qs,fun a ha=>?_⟩;show(upd N.Ys k (N.Ys k++[y]) a).length<=cnt+1
 by_cases e:a=k
 ·subst e;rw[upd_same,List.length_append];have:=h.ys a ha;simp;omega
 ·rw[zAB e];exact Nat.le_succ_of_le (h.ys a ha)
theorem LkI.of_cell{G}{q}{N M}{cnt}(h:LkI G q N cnt){i}{X}(hi:i<q.1.length)(hc:rep G X=X)(hr:zAI G X=true){P}(hM:((i,X)∈N.pls/\M=N/\P)\/((i,X)∉N.pls/\∃d e,M=N.cell (i,X) d e)):LkI G q M cnt/\Gro N M:=by
 rcases hM with⟨_,rfl,_⟩|⟨hn,d,e,rfl⟩
 ·exact⟨h,.refl _⟩
 ·exact⟨h.cell hn hi hc hr d e,N.cell_gro _ d e⟩
theorem zBr{G}(hv:checkN G=0){q}{N}(h:Lk1 G q N)(hq:q.1.length<=2000):N.pls.length<=6000000:=by
 have h1:=h.len (A:=allI G) (fun x hx=>zCW hx);have h2:=zBE hv;have:q.1.length*(allI G).length<=2000*2709:=Nat.mul_le_mul hq h2;omega
def ovW(k:Nat):Way:=⟨.pointer none,fun _=>false,true,k⟩
noncomputable def inW(K:Fk)(G:Gram)(r d k:Nat):Way:=⟨.pointer (some ⟨K.tP r d,0,none⟩),zOm G r d,zTs G r d,k⟩
theorem zVs(K)(G)(k):YOk K G (ovW k):=.inl ⟨rfl,rfl⟩
theorem zVi(K)(G){r d:Nat}(hr:r<=G.rules.length)(hd:d<(zAF G (r:Int)).2.length)(k):YOk K G (inW K G r d k):=.inr ⟨r,d,hr,hd,rfl,rfl⟩
theorem zTR(k):(ovW k).Ov:=⟨rfl,fun _=>rfl⟩
theorem zUj(K)(G)(r d k):(inW K G r d k).In G ((r:Int),(d:Int)):=by
 have e:zJT G ((r:Int),(d:Int))=(zAF G (r:Int)).2.drop (d+1):=by
  unfold zJT;dsimp only
  congr 1
 refine⟨?_,fun u=>?_⟩
 ·rw[e];show allC (canB G) ((zAF G (r:Int)).2.drop (d+1))=true↔_;rw[zCQ];exact⟨fun h z hz=>zBV.1 (h z hz),fun h z hz=>zBV.2 (h z hz)⟩
 ·rw[e];show(decide (u<G.terms.length+1)&&zAg (canB G) (fstB G) ((zAF G (r:Int)).2.drop (d+1)) (u:Int))=true↔_;rw[Bool.and_eq_true,decide_eq_true_iff,zQC];refine⟨fun h=>h.2,fun h=>⟨?_,h⟩⟩;have:=Fi.zCI h;omega
structure LS (W:World) (K:Fk) (G:Gram) (q:Whole) (S:Nat->Prop) (w0:World) (r d:Int) (N:Nt) (T:Nat->Prop) (w:World):Prop where
 at_:NAt W K G q N T w
 x0:w.cell? ⟨w0.heap.size,0,none⟩=some (.int .i64 r)
 x1:w.cell? ⟨w0.heap.size,1,none⟩=some (.int .i64 d)
 off:¬T w0.heap.size
 lt:w0.heap.size<w.heap.size
 fr:Sep.Fr S w0 w
 ext:Sep.Ext T S w0
section
variable {W:World} {K:Fk} {G:Gram} {q:Whole} {S:Nat->Prop} {w0:World} {r d:Int} {N M:Nt} {T U:Nat->Prop} {w w':World}
theorem LS.start(h:NAt W K G q N S w0)(r d)(Ty):LS W K G q S w0 r d N S (w0.alloc (.cells #[.int .i64 r,.int .i64 d] Ty)):=
 ⟨h.went (boxed _ _),zAC rfl rfl,zAC rfl rfl,fun e=>Nat.lt_irrefl _ (h.inn _ e),by simp,.of_below (boxed _ _),.refl _ _⟩
theorem LS.went(h:LS W K G q S w0 r d N T w)(hb:Below w.heap.size w w'):LS W K G q S w0 r d N T w':=
 ⟨h.at_.went hb,cell_later hb h.x0,cell_later hb h.x1,h.off,Nat.lt_of_lt_of_le h.lt hb.size,h.fr.trans (.of_below hb) h.ext,h.ext⟩
theorem LS.turn(h:LS W K G q S w0 r d N T w)(hM:NAt W K G q M U w')(f:Sep.Fr T w w')(x:Sep.Ext U T w):LS W K G q S w0 r d M U w':=
 ⟨hM,f.cell h.x0 h.off,f.cell h.x1 h.off,fun e=>by
  rcases x _ e with e|e
  ·exact h.off e
  ·have:=h.lt
   omega,Nat.lt_of_lt_of_le h.lt f.size,h.fr.trans f h.ext,h.ext.trans x h.fr.size⟩
theorem LS.fix(h:LS W K G q S w0 r d N T w)(FX:Fix W K G q):FixAt K G q w:=FX.at_ w h.at_.fr
theorem LS.eight(h:LS W K G q S w0 r d N T w):w.cell? ⟨K.p,0,none⟩=some (.slice K.aS (states q).length K.cS)/\w.cell? ⟨K.p,2,none⟩=some (.slice (some ⟨K.bR,0,none⟩) (G.rules.length+1) K.cR)/\w.cell? ⟨K.p,3,none⟩=some (.slice (some ⟨K.bB,0,none⟩) (top G+1) K.cB)/\w.cell? ⟨K.p,4,none⟩=some (.slice (some ⟨K.bT,0,none⟩) (G.rules.length+1) K.cT):=by
 obtain⟨lab,cv,qv,k,_⟩:=h.at_
 obtain⟨h0,_,h2,h3,h4,_⟩:=k.eight;exact⟨h0,h2,h3,h4⟩
end
def Linked(W:World)(K:Fk)(G:Gram)(q:Whole)(N:Nt)(cnt:Nat)(i:Nat)(x:Itm)(S:Nat->Prop)(w:World)(e:Ending)(w':World):Prop:=
 e=.returned (.tuple #[])/\∃M T,NAt W K G q M T w'/\Sep.Fr S w w'/\Sep.Ext T S w/\LkI G q M (cnt+2)/\Gro N M/\Lkd G q M i x
end Lk
namespace Lk
open Gr (Gram ivs drawn zAF zAY top)
open Im
open Au
theorem zQD{W:World}{K:Fk}{G:Gram}{q:Whole}{N:Nt}{S:Nat->Prop}(FX:Fix W K G q)(w:World)(h:NAt W K G q N S w){cnt:Nat}(hL:LkI G q N cnt)(hcnt:cnt<=100000000)(i:Nat)(hi:i<q.1.length)(x:Itm)(hx:Clo G (zAK q.1 i) x):
  Calls Tryz.prog 114 #[.pointer (some ⟨K.p,0,none⟩),.int .i64 (i:Int),iv x] w (Linked W K G q N cnt i x S w):=by
 have hxr:=zAn hx;obtain⟨r,d⟩:=x;obtain⟨⟨r0,r1⟩,d0,d1⟩:=zAS.1 hxr;dsimp only at r0 r1 d0 d1;obtain⟨r,rfl⟩:=Int.eq_ofNat_of_zero_le r0;obtain⟨d,rfl⟩:=Int.eq_ofNat_of_zero_le d0;have hrl:rlen G (r:Int)=(zAF G (r:Int)).2.length:=rfl;rw[hrl]at d1;have L0:=zV7 (LS.start h (r:Int) (d:Int) 181);have SM:=Fi.zBG FX.ok;have hT:G.terms.length<=1000:=by have:=SM.t;omega
 have hR:=SM.r;have hr:r<=G.rules.length:=by omega
 have hrb:zAY G (r:Int)=true:=by unfold zAY;exact decide_eq_true ⟨r0,r1⟩
 have hri:(r:Int)<((G.rules.length+1:Nat):Int):=by omega
 have hq:=FX.len;have RL:=zV7 (fun w1 (F:FixAt K G q w1)=>F.rules r hr);have hrs:=zCN FX.ok (r:=r) hr;rw[hrl]at hrs;have hi2:i<=1000000:=by omega
 by_cases hdd:d<(zAF G (r:Int)).2.length
 ·obtain⟨hb,hbv⟩:=zB6 hrb hdd;obtain⟨s1,s2⟩:=zBX FX.ok hrb hdd;obtain⟨j,hj,hgo,hst⟩:=zMk FX.done FX.ok hi hx hb;rw[hbv]at hgo;obtain⟨s,hs⟩:=Int.eq_ofNat_of_zero_le (show 0<=(zAF G (r:Int)).2[d]by omega);have hst':s<=top G:=by omega
  have hil:i<(states q).length:=by rw[zAv FX.done.all];exact hi
  have hgs:zEh (states q) (i:Int) (s:Int)=(j:Int):=by
   rw[zEr hil,←hgo,←hs];have:=zCO FX.done.all hi;rw[List.getElem?_eq_getElem hil]at this;injection this with this
   rw[this]
  have RS:=zV7 (show∀w1,FixAt K G q w1->∃a c b o,w1.cell? ⟨K.bR,r*2+1,none⟩=some (.slice a (zAF G (r:Int)).2.length c)/\a=some ⟨b,o,none⟩/\w1.cell? ⟨b,o+d,none⟩=some (.int .i64 (s:Int))from fun w1 F=>by
   obtain⟨a,c,_,f2,f3⟩:=F.rules r hr;obtain⟨b,o,e,f4⟩:=f3 d (by simpa[ivs]using hdd);refine⟨a,c,b,o,f2,e,?_⟩;rw[f4]
   simp[ivs,Gr.iv,hs])
  have hX1:=zTh (G:=G) (x:=((r:Int),(d:Int))) hrb;have hX1r:=zOM hxr;have C1:=zV7 (fun w1 (l:LS W K G q S w (r:Int) (d:Int) N S w1)=>zDe FX w1 l.at_ (Nat.le_trans (zBr FX.ok hL.lk hq) (by omega)) hT i r (d:Int) hi2 hr (by omega) (by omega) (by omega));have C2:=zV7 (fun N1 T1 w1 (l:LS W K G q S w (r:Int) (d:Int) N1 T1 w1) (k:LkI G q N1 cnt)=>zDe FX w1 l.at_ (Nat.le_trans (zBr FX.ok k.lk hq) (by omega)) hT j r ((d:Int)+1) (by omega) hr (by omega) (by omega) (by omega));rw[zCb (show((r:Int),((d:Int)+1)).2≠0 from by dsimp only;omega)]at C2
  have GO:=zV7 (fun w1 (F:FixAt K G q w1)=>(show Calls Tryz.prog 99 #[.slice K.aS (states q).length K.cS,.int .i64 (i:Int),.int .i64 (s:Int)] w1 (Gr.Is (.int .i64 (j:Int)) w1)from by
   have:=zGw (states q) K.aS K.cS (i:Int) (s:Int) w1 F.sts FX.small;rw[hgs]at this
   exact this))
  have I1:=zV7 (fun N1 {P:Prop} hM=>hL.of_cell (M:=N1) (P:=P) hi hX1 hX1r hM);have hwrap:IntKind.i64.wrap ((d:Int)+1)=(d:Int)+1:=IntWalk.i64_in _ (by omega);have hdl:(d:Int)<((zAF G (r:Int)).2.length:Int):=by omega
  have hdne:¬d=(zAF G (r:Int)).2.length:=by omega
  generalize hX1e:rep G ((r:Int),(d:Int))=X1 at*;unfold iv;dsimp only;go_enter Tryz.func114,Tryz.ntmps114;go_wp2_with fail;generalize w.alloc (.cells #[.int .i64 (r:Int),.int .i64 (d:Int)] 181)=w1 at*;obtain⟨p0,p2,p3,p4⟩:=L0.out.eight;have x0:=L0.out.x0;have x1:=L0.out.x1;obtain⟨aR,cR,bR,oR,f1,rfl,f2⟩:=RS.out w1 (L0.out.fix FX);go_region;have LD:=zV7 (L0.out.went (drawn w1));go_wp2_with (go_at_call 116;(with_reducible refine(C1.out _ LD.out).mono ?_);rintro e w2 ⟨k1,N1,rfl,hk1,hM1,T1,hn1,hf1,he1⟩;obtain⟨hI1,hG1⟩:=I1.out N1 hM1;have L1:=zV7 (LD.out.turn hn1 hf1 he1);have KI1:=zV7 hI1;have KG1:=zV7 hG1;have K1:=zV7 hk1;obtain⟨q0,q2,q3,q4⟩:=L1.out.eight;have y0:=L1.out.x0;have y1:=L1.out.x1;clear hn1 hf1 he1 hI1 hG1 hM1 hk1);have LE1:=zV7 (L1.out.went (drawn w2));have IN2:=zV7 (fun N2 {P:Prop} hM=>KI1.out.of_cell (M:=N2) (i:=j) (X:=((r:Int),(d:Int)+1)) (P:=P) hj (zCb (by dsimp only;omega)) ((FX.done.ok.good _ (zBD hj)).2.2 _ hst) hM);have kc1:w2.drew.cell? ⟨K.p,0,none⟩=some (.slice K.aS (states q).length K.cS)/\w2.drew.cell? ⟨w.heap.size,0,none⟩=some (.int .i64 (r:Int))/\w2.drew.cell? ⟨w.heap.size,1,none⟩=some (.int .i64 (d:Int)):=⟨q0,y0,y1⟩;have hbs:behV G ((r:Int),(d:Int))=(s:Int):=hbv.trans hs;rw[hs]at hgo;have LB:=zV7 (fun w1 (F:FixAt K G q w1)=>F.lefts s hst')
  have TL:=zV7 (fun w1 (F:FixAt K G q w1)=>(show∃a c b,w1.cell? ⟨K.bT,r,none⟩=some (.slice a (zAF G (r:Int)).2.length c)/\a=some ⟨b,0,none⟩/\w1.cell? ⟨b,d*2,none⟩=some (.pointer (some ⟨K.tP r d,0,none⟩))/\w1.cell? ⟨b,d*2+1,none⟩=some (.bool (zTs G r d))from by
   obtain⟨a,c,f1,f2⟩:=F.tails r hr;obtain⟨b,e,g1,g2,_⟩:=f2 d hdd
   exact⟨a,c,b,f1,e,g1,g2⟩))
  have C3:=zV7 (fun(M:Nt) U w1 (l:LS W K G q S w (r:Int) (d:Int) M U w1) (c2:Nat) (k:LkI G q M c2) (hc2:c2<=100000002) (kk:Nat) (hkk:kk<M.pls.length) (y:Way) (hy:YOk K G y)=>zP9 w1 l.at_ (k:=kk) hkk (Nat.le_trans (zBr FX.ok k.lk hq) (by omega)) hy (Nat.le_trans (k.ys kk hkk) (by omega)));have C4:=zV7 (fun(M:Nt) U w1 (l:LS W K G q S w (r:Int) (d:Int) M U w1) (c2:Nat) (k:LkI G q M c2) (k0:Nat) (h0:k0<=G.rules.length)=>zDe FX w1 l.at_ (Nat.le_trans (zBr FX.ok k.lk hq) (by omega)) hT i k0 (0:Int) hi2 h0 (by omega) (by omega) (by omega));have OK:=zV7 (zVs K G);have IK:=zV7 (zVi K G hr hdd)
  have HX:=zV7 (show∀M y,LkI G q M cnt->(∃k2,M.pls[k2]?=some (j,((r:Int),(d:Int)+1))/\y=ovW k2)->zHW G q M.pls i ((r:Int),(d:Int)) y from fun M y _ ⟨k2,h1,h2⟩=>by
   subst h2
   exact .inl ⟨j,by rw[hbs];exact hgo,h1,zTR k2⟩)
  have HY:=zV7 (show∀(M:Nt) k4,M.pls[k4]?=some (i,hd G (s:Int))->byL G (s:Int)≠[]->zHW G q M.pls i ((r:Int),(d:Int)) (inW K G r d k4)from fun M k4 h1 h2=> .inr ⟨by rw[hbs];exact h2,by rw[hbs];exact h1,zUj K G r d k4⟩)
  go_region_held3 (fun w'=>w'.cell? ⟨K.p,0,none⟩=some (.slice K.aS (states q).length K.cS)/\w'.cell? ⟨w.heap.size,0,none⟩=some (.int .i64 (r:Int))/\w'.cell? ⟨w.heap.size,1,none⟩=some (.int .i64 (d:Int)))
   (assumption)
   (first
    |(go_at_call 99;(with_reducible refine(GO.out _ (LE1.out.fix FX)).mono ?_);rintro e w3 ⟨rfl,hb3⟩;have L2:=zV7 (LE1.out.went hb3);have kc2:w3.cell? ⟨K.p,0,none⟩=some (.slice K.aS (states q).length K.cS)/\w3.cell? ⟨w.heap.size,0,none⟩=some (.int .i64 (r:Int))/\w3.cell? ⟨w.heap.size,1,none⟩=some (.int .i64 (d:Int)):=⟨L2.out.eight.1,L2.out.x0,L2.out.x1⟩;clear hb3)
    |(go_at_call 116;(with_reducible refine(C2.out N1 T1 _ L2.out KI1.out).mono ?_);rintro e w4 ⟨k2,N2,rfl,hk2,hM2,T2,hn2,hf2,he2⟩;obtain⟨hI2,hG2⟩:=IN2.out N2 hM2;have L3:=zV7 (L2.out.turn hn2 hf2 he2);have kc3:w4.cell? ⟨K.p,0,none⟩=some (.slice K.aS (states q).length K.cS)/\w4.cell? ⟨w.heap.size,0,none⟩=some (.int .i64 (r:Int))/\w4.cell? ⟨w.heap.size,1,none⟩=some (.int .i64 (d:Int)):=⟨L3.out.eight.1,L3.out.x0,L3.out.x1⟩;have KI2:=zV7 hI2;have KG2:=zV7 hG2;have K2:=zV7 hk2;clear hn2 hf2 he2 hI2 hG2 hM2 hk2)
    |fail)
  have K12:=zV7 (KG2.out.pls _ _ K1.out);have hk12:=zAk K12.out;have LE:=zV7 (C3.out N2 T2 w4 L3.out cnt KI2.out (by omega) k1 hk12 (ovW k2) (OK.out k2));have I3:=zV7 (fun v=>KI2.out.lead (y:=ovW k2) (by rw[K12.out,hX1e]) hx hb (HX.out N2 _ KI2.out ⟨k2,K2.out,rfl⟩) v);clear kc1 kc2 kc3 LE1 LD L0 C1 C2 I1 IN2 GO RS f1 f2 x0 x1 y0 y1 p0 p2 p3 p4 q0 q2 q3 q4;unfold ovW at LE;dsimp only at LE
  by_cases hB:byL G (s:Int)=[]
  ·rw[hB]at LB;go_wp2_with (go_at_call 138;(with_reducible refine(LE.out).mono ?_);rintro e w5 ⟨rfl,v,T3,hn3,hf3,he3⟩;have L4:Hid (LS W K G q S w (r:Int) (d:Int) (N2.lead k1 (ovW k2) v) T3 w5):=zV7 (L3.out.turn hn3 hf3 he3);obtain⟨_,_,q3,_⟩:=L4.out.eight;obtain⟨aB,cB,g1,_⟩:=LB.out w5 (L4.out.fix FX);clear hn3 hf3 he3);refine bodyPost_ret (v:=.tuple #[]) (by simp[results,Tryz.results114,go_sem]) rfl ?_;refine⟨rfl,_,T3,L4.out.at_,L4.out.fr,L4.out.ext,(I3.out v).mono (by omega),(KG1.out.trans KG2.out).trans (N2.lead_gro k1 _ v),fun _=>⟨k1,by rw[hX1e];exact K12.out,⟨j,by rw[hbs];exact hgo,ovW k2,N2.lead_mem k1 (ovW k2) v,K2.out,zTR k2⟩,fun e=>absurd (by rw[hbs];exact hB) e⟩⟩
  ·have hpos:0<(byL G (s:Int)).length:=List.length_pos_iff.2 hB;have hk0:=zBx.1 (head_ne hB);have hrep:=zEx (head_ne hB);have C5:=zV7 (fun(M:Nt) U w1 (l:LS W K G q S w (r:Int) (d:Int) M U w1) (c2:Nat) (k:LkI G q M c2)=>C4.out M U w1 l c2 k _ hk0.1);rw[hrep]at C5
   have LB2:=zV7 (show∀w1,FixAt K G q w1->∃b o c,w1.cell? ⟨K.bB,s,none⟩=some (.slice (some ⟨b,o,none⟩) (byL G (s:Int)).length c)/\w1.cell? ⟨b,o,none⟩=some (.int .i64 (((byL G (s:Int)).headD 0:Nat):Int))from fun w1 F=>by
    obtain⟨aB,cB,g1,g2⟩:=LB.out w1 F;obtain⟨b,o,rfl,g3⟩:=g2 0 (by rw[zEw];exact hpos);rw[zID]at g3
    exact⟨b,o,cB,g1,g3⟩)
   have hdr:=zJ6 hB;have hdp:=zRi hB;have IN4:=zV7 (fun(N3 M:Nt) (c2:Nat) (k:LkI G q N3 c2) {P:Prop} hM=>k.of_cell (M:=M) (i:=i) (X:=hd G (s:Int)) (P:=P) hi hdp hdr hM);generalize (byL G (s:Int)).headD 0=k0 at*;generalize hLL:(byL G (s:Int)).length=LL at*;clear LB C4 hk0 hrep
   go_wp2_with (first
    |(go_at_call 138;(with_reducible refine(LE.out).mono ?_);rintro e w5 ⟨rfl,v,T3,hn3,hf3,he3⟩;have L4:Hid (LS W K G q S w (r:Int) (d:Int) (N2.lead k1 (ovW k2) v) T3 w5):=zV7 (L3.out.turn hn3 hf3 he3);obtain⟨_,_,q3,_⟩:=L4.out.eight;obtain⟨b5,o5,c5,g1,g2⟩:=LB2.out w5 (L4.out.fix FX);have I3v:=zV7 (I3.out v);clear hn3 hf3 he3)
    | (go_at_call 116;(with_reducible refine(C5.out (N2.lead k1 (ovW k2) v) T3 w5 L4.out (cnt+1) I3v.out).mono ?_);rintro e w6 ⟨k4,N4,rfl,hk4,hM4,T4,hn4,hf4,he4⟩;obtain⟨hI4,hG4⟩:=IN4.out _ N4 (cnt+1) I3v.out hM4;have L5:=zV7 (L4.out.turn hn4 hf4 he4);have KI4:=zV7 hI4;have KG4:=zV7 hG4;have K4:=zV7 hk4;obtain⟨_,_,_,r4⟩:=L5.out.eight;have z0:=L5.out.x0;have z1:=L5.out.x1;obtain⟨a6,c6,b6,t1,rfl,t2,t3⟩:=TL.out w6 (L5.out.fix FX);clear hn4 hf4 he4 hI4 hG4 hM4 hk4))
   have K14:=zV7 (KG4.out.pls _ _ ((N2.lead_gro k1 (ovW k2) v).pls _ _ K12.out));have hk14:=zAk K14.out;have L6:=zV7 (L5.out.went (drawn w6));have LF:=zV7 (C3.out N4 T4 w6.drew L6.out (cnt+1) KI4.out (by omega) k1 hk14 (inW K G r d k4) (IK.out k4));unfold inW at LF;dsimp only at LF;have hrn:(r:Int)<(G.rules.length:Int)+1:=by omega
   go_region_law (first
    |(go_simp;go_at_call 138;(with_reducible refine(LF.out).mono ?_);rintro e w7 ⟨rfl,v2,T5,hn5,hf5,he5⟩;have L7:Hid (LS W K G q S w (r:Int) (d:Int) (N4.lead k1 (inW K G r d k4) v2) T5 w7):=zV7 (L6.out.turn hn5 hf5 he5);clear hn5 hf5 he5)
    |fail)
   all_goals
    go_wp2_with fail;refine bodyPost_ret (v:=.tuple #[]) (by simp[results,Tryz.results114,go_sem]) rfl ?_;have g5:=N4.lead_gro k1 (inW K G r d k4) v2;refine⟨rfl,_,T5,L7.out.at_,L7.out.fr,L7.out.ext,KI4.out.lead (y:=inW K G r d k4) (by rw[K14.out,hX1e]) hx hb (HY.out N4 k4 K4.out hB) v2,((KG1.out.trans KG2.out).trans (N2.lead_gro k1 _ v)).trans (KG4.out.trans g5),fun _=>⟨k1,by rw[hX1e];exact K14.out,⟨j,by rw[hbs];exact hgo,ovW k2,g5.ys k1 hk14 _ (KG4.out.ys k1 hk12 _ (N2.lead_mem k1 (ovW k2) v)),KG4.out.pls _ _ K2.out,zTR k2⟩,fun _=>⟨inW K G r d k4,N4.lead_mem k1 _ v2,by rw[hbs];exact K4.out,zUj K G r d k4⟩⟩⟩
 ·have hE:d=(zAF G (r:Int)).2.length:=by omega
  have hb:behB G ((r:Int),(d:Int))=false:=by
   cases e:behB G ((r:Int),(d:Int))with
   |false=>rfl
   |true=>
    have:=(zAu.1 e).2;dsimp only at this;omega
  generalize (zAF G (r:Int)).2.length=n at*;subst hE;unfold iv;dsimp only;go_enter Tryz.func114,Tryz.ntmps114;go_wp2_with fail;generalize w.alloc (.cells #[.int .i64 (r:Int),.int .i64 (d:Int)] 181)=w1 at*;obtain⟨p0,p2,p3,p4⟩:=L0.out.eight;have x0:=L0.out.x0;have x1:=L0.out.x1;obtain⟨aR,cR,_,f1,_⟩:=RL.out w1 (L0.out.fix FX);go_region;go_wp2_with fail;refine bodyPost_ret (v:=.tuple #[]) (by simp[results,Tryz.results114,go_sem]) rfl ?_;have LD:=L0.out.went (drawn w1);exact⟨rfl,N,S,LD.at_,LD.fr,LD.ext,hL.mono (by omega),.refl _,fun e=>by rw[hb]at e;cases e⟩
