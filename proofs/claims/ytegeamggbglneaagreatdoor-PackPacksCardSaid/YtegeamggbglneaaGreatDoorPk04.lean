/- A part of the proof. -/
import Derived.Test.YtegeamggbglneaaGreatDoorPk02
import Derived.Deep.AppendLies
set_option maxHeartbeats 2000000
set_option maxRecDepth 100000
set_option linter.unusedVariables false
namespace Go.Proofs.YtegeamggbglneaaGreatDoor
open Go.RowKit Go.Maps
namespace Gr
theorem zIe{x r}(h:x=r):Ending.returned (.string r)=.returned (.string x):=by rw[h]
theorem zHB(h)(G)(s)(w)(k:GAt h G w):
  Calls Tryz.prog 152 #[gv h G,.int .i64 s] w (Is (.string (zFT G s)) w):=by
 have T:=zV7 (fun w1 (b:Below w.heap.size w w1)=>zRN h G s w1 (k.went b));have N:=zV7 (fun w1 (b:Below w.heap.size w w1)=>zNo h G s w1 (k.went b));have X:=zV7 (Bx.start h G w 47);have t:=k.t2;have n:=k.n2
 by_cases h0:s=0
 ·subst h0;have E:=zV7 (zNm G);clear k T N;unfold gv;go_enter Tryz.func152,Tryz.ntmps152;go_wp2;go_ret;exact⟨zIe E.out,X.out.below⟩
 ·by_cases h1:1<=s/\s<=(G.terms.length:Int)
  ·obtain⟨j,rfl⟩:∃j:Nat,s=(j:Int)+1:=⟨(s-1).toNat,by omega⟩;have hj:j<G.terms.length:=by omega
   have E:=zV7 (zNk hj);have e1:=zA9.2 h1;rw[e1]at T;obtain⟨a1,c1,a2,c2,a3,c3⟩:=h;obtain⟨b,o,e,hc⟩:=k.terms j (by simpa using hj);dsimp only at e;subst e;simp only[List.getElem_map]at hc;have HC:=zV7 (fun w1 (b:Below w.heap.size w w1)=>cell_later b hc);clear hc k N e1 h1 h0;generalize zFT G ((j:Int)+1)=x at E⊢;have hx:=E.out;subst hx;unfold gv;dsimp only;go_enter Tryz.func152,Tryz.ntmps152;go_wp2_with (go_at_call 176;refine(T.out _ X.out.below).mono ?_;rintro e w1 ⟨rfl,hb⟩;have X:=zV7 (X.out.went hb);obtain⟨x0,x1,x2,x3⟩:=X.out.box;have hc:=HC.out _ X.out.below;clear hb);go_ret;exact⟨rfl,X.out.below⟩
  ·have e1:zEl G s=false:=by rw[←Bool.not_eq_true,zA9];exact h1
   rw[e1]at T
   by_cases h2:(G.terms.length:Int)<s/\s<=(G.terms.length:Int)+(G.nons.length:Int)
   ·obtain⟨j,rfl⟩:∃j:Nat,s=((G.terms.length+j:Nat):Int)+1:=⟨(s-1-G.terms.length).toNat,by omega⟩;have hj:j<G.nons.length:=by omega
    have E:=zV7 (zQQ hj);have e2:=zAa.2 h2;rw[e2]at N;obtain⟨a1,c1,a2,c2,a3,c3⟩:=h;obtain⟨b,o,e,hc⟩:=k.nons j (by simpa using hj);dsimp only at e;subst e;simp only[List.getElem_map]at hc;have HC:=zV7 (fun w1 (b:Below w.heap.size w w1)=>cell_later b hc);clear hc k e1 e2 h1 h2 h0;generalize zFT G (((G.terms.length+j:Nat):Int)+1)=x at E⊢;have hx:=E.out;subst hx;unfold gv;dsimp only;have hi1:((G.terms.length+j:Nat):Int)+1-(G.terms.length:Int)=(j:Int)+1:=by omega
    have hi2:(G.terms.length:Int)+(j:Int)+1-(G.terms.length:Int)=(j:Int)+1:=by omega
    go_enter Tryz.func152,Tryz.ntmps152
    go_wp2_with (first
     |(go_at_call 176;refine(T.out _ X.out.below).mono ?_;rintro e w1 ⟨rfl,hb⟩;have X:=zV7 (X.out.went hb);obtain⟨x0,x1,x2,x3⟩:=X.out.box;clear hb)
     | (go_at_call 153;refine(N.out _ X.out.below).mono ?_;rintro e w1 ⟨rfl,hb⟩;have X:=zV7 (X.out.went hb);obtain⟨x0,x1,x2,x3⟩:=X.out.box;have hc:=HC.out _ X.out.below;clear hb))
    go_ret;exact⟨rfl,X.out.below⟩
   ·have e2:nonB G s=false:=by rw[←Bool.not_eq_true,zAa];exact h2
    rw[e2]at N;have E:=zV7 (zQR (G:=G) (s:=s) (by unfold top;omega));clear k e1 e2 h1 h2;unfold gv;go_enter Tryz.func152,Tryz.ntmps152
    go_wp2_with (first
     |(go_at_call 176;refine(T.out _ X.out.below).mono ?_;rintro e w1 ⟨rfl,hb⟩;have X:=zV7 (X.out.went hb);obtain⟨x0,x1,x2,x3⟩:=X.out.box;clear hb)
     | (go_at_call 153;refine(N.out _ X.out.below).mono ?_;rintro e w1 ⟨rfl,hb⟩;have X:=zV7 (X.out.went hb);obtain⟨x0,x1,x2,x3⟩:=X.out.box;clear hb))
    go_ret;exact⟨zIe E.out,X.out.below⟩
theorem zA0:(Tryz.prog.info? 3).map (fun i=>(i.zero,i.size,i.bytes))=some (some (.int .i64 0),1,8):=by kernel_rfl
def iv(i:Int):Value:=.int .i64 i
def ivs(l:List Int):List Value:=l.map iv
theorem zGS(l):(ivs l).length=l.length:=by simp[ivs]
def ofI(R:List (Int×List Int))(s:Int)(k:Nat):List Int:=(ofTo R s k).map fun i:Nat=>(i:Int)
def ofL(G:Gram)(s:Int):List Int:=ofI G.rules s G.rules.length
theorem zC8(G)(s):(ofL G s).length=(ofN G s).length:=by simp[ofL,ofI,ofN]
theorem zRt(R)(s)(k):(ofI R s k).length<=k:=by
 have:=zTM R s k
 simpa[ofI]using this
theorem zTL{R}{s}{k}(h:leftOf R k=s):ofI R s (k+1)=ofI R s k++[(k:Int)]:=by simp[ofI,zQa h]
theorem zQZ{R}{s}{k}(h:¬leftOf R k=s):ofI R s (k+1)=ofI R s k:=by simp[ofI,zNu h]
def New(a:Option Addr)(w:World):Prop:=∀x,a=some x->w.heap.size<=x.block
theorem zHL{W w:World}{base n c}{e}{a}{xs}(h:w.ownsRow base e 1 (.slice a n c) n xs)(hb:W.heap.size<=base):New a W:=by
 rintro x rfl;rcases h.2 with⟨h1,_⟩|⟨g,cap,cur,h1,h2,_⟩
 ·cases h1
 ·simp only[Value.slice.injEq,Option.some.injEq]at h1;obtain⟨rfl,_⟩:=h1;simp;omega
def Listed(l:List Int)(w:World)(e:Ending)(w':World):Prop:=
 ∃a c,e=.returned (.slice a l.length c)/\Sep.Reads a (ivs l) w'/\New a w/\Below w.heap.size w w'
theorem zEa(h:Sh)(G:Gram)(s:Int)(w:World)(k:GAt h G w)(hr:G.rules.length<=65536):
  Calls Tryz.prog 156 #[gv h G,.int .i64 s] w (Listed (ofL G s) w):=by
 obtain⟨i0,hi,hz0,hz1,hz2⟩:=info_parts zA0;obtain⟨a1,c1,a2,c2,a3,c3⟩:=h;have hc3:=k.r2;have X:=zV7 (Bx.start ⟨a1,c1,a2,c2,a3,c3⟩ G w 47);have K:=zV7 (fun w1 (b:Below w.heap.size w w1)=>(k.went b).rules);clear k;have HO:=zV7 (show(w.alloc (.cells #[.slice a1 G.terms.length c1,.slice a2 G.nons.length c2,.slice a3 G.rules.length c3,.int .i64 G.start] 47)).ownsRow (w.heap.size+1) 3 1 (.slice none 0 0) (ofI G.rules s 0).length (ivs (ofI G.rules s 0))from⟨rfl,.inl ⟨rfl,rfl⟩⟩);unfold gv;dsimp only;go_enter Tryz.func156,Tryz.ntmps156;go_wp2;go_loopw [5,11] (fun v i wr=>∃j:Nat,j<=G.rules.length/\i=.int .i64 j/\wr.ownsRow (w.heap.size+1) 3 1 v (ofI G.rules s j).length (ivs (ofI G.rules s j))/\Bx w ⟨a1,c1,a2,c2,a3,c3⟩ G wr) (fun _ i _=>G.rules.length-(intOf i).toNat)
 case atStart=>exact⟨0,Nat.zero_le _,rfl,HO.out,X.out⟩
 case round=>
  obtain⟨j,hj,rfl,hO,hX⟩:=hrel;obtain⟨a',c',rfl⟩:=Sep.zBC hO;clear HO X;have X:=zV7 hX;have HO:=zV7 hO;have hle:=zRt G.rules s j;clear hO hX
  by_cases hlt:j<G.rules.length
  ·obtain⟨b,o,ra,rc,e,h1,h2,h3,h4,h5⟩:=K.out _ X.out.below j hlt;have e1:=zA4 hlt;rw[←e1]at h1;generalize G.rules[j].2=rr at h2 h3 h4 h5
   try dsimp only at e
   subst e;clear e1 h3
   by_cases hs:leftOf G.rules j=s
   ·have HI:=zV7 (zTL hs);subst hs;generalize leftOf G.rules j=s at*;go_wp2_with (at_builtin;go_loud (refine wpList_append_own _ rfl _ _ 29 rfl (w.heap.size+1) 3 i0 (.int .i64 0) 1 8 Tryz.underlying29 hi hz0 hz1 hz2 rfl (by decide) _ _ _ rfl ((HO.out.alloc _).alloc _) ⟨wr.heap.size+1,0,none⟩ 1 1 [iv j] rfl rfl ?c1 ?c2 ?c3 ?c4 ?c5 ?_))
    case c1=>
     intro i u hi
     match i,hi with
     |0,hi=>simp at hi;subst hi;simp[Addr.add,iv]
    case c2=>intro u hu;simp at hu;subst hu;rfl
    case c3=>unfold maxLen;omega
    case c4=>omega
    case c5=>have:=X.out.size;simp;omega
    intro v' w2 hown' hgrow _;have X:=zV7 (((X.out.alloc _).alloc _).grown hgrow fun q hq=>(HO.out.lt q hq).1);have HO:=zV7 (show w2.ownsRow (w.heap.size+1) 3 1 v' (ofI G.rules s (j+1)).length (ivs (ofI G.rules s (j+1)))by rw[HI.out];simpa[ivs]using hown');clear hown' hgrow;go_wp2;go_roundw
    case rel=>exact⟨j+1,by omega,by go_num,HO.out,X.out⟩
    case measure=>simp[intOf];omega
   ·have HI:=zV7 (zQZ hs);have hb:(leftOf G.rules j==s)=false:=by simpa using hs
    clear hs;go_wp2_with (at_builtin;fail);go_roundw
    case rel=>exact⟨j+1,by omega,by go_num,by rw[HI.out];exact HO.out.alloc _,X.out.alloc _⟩
    case measure=>simp[intOf];omega
  ·have hE:j=G.rules.length:=by omega
   subst hE;have HR:=zV7 (Sep.Reads.of_row HO.out);have HN:=zV7 (zHL (W:=w) HO.out (by omega));go_wp2;go_ret;exact⟨_,_,rfl,HR.out,HN.out,X.out.below⟩
theorem zTk{w:World}{base n c}{e}{a}{xs}(h:w.ownsRow base e 1 (.slice a n c) n xs):n<=c:=by
 rcases h.2 with⟨h1,h2⟩|⟨g,cap,cur,h1,_,_,h3,_⟩
 ·omega
 ·simp only[Value.slice.injEq]at h1;omega
