/- A part of the proof. -/
import Derived.Test.YtegeamggbglneaaGreatDoorPk06
import Derived.Test.YtegeamggbglneaaGreatDoorPk08
import Derived.Test.YtegeamggbglneaaGreatDoorPk09
set_option maxHeartbeats 2000000
set_option maxRecDepth 100000
set_option linter.unusedVariables false
namespace Go.Proofs.YtegeamggbglneaaGreatDoor
namespace Au
open Go.RowKit Go.Maps
open Gr (boxed zAC step)
open Im
theorem zA5{w w'}{row}{m}(hg:w.grownBy w' row)(hm:m<=w.heap.size)(hr:∀k,row=some k->m<=k):Below m w w':=
 ⟨hg.os,hg.tape,hg.output,hg.size,fun i hi=>hg.block i (by omega) fun e=>by have:=hr i e.symm;omega⟩
theorem zM7(x):∀u∈ic x,u.oneCell'=true:=fun u hu=>by
 simp only[ic,List.mem_cons,List.not_mem_nil,or_false]at hu;rcases hu with rfl|rfl<;>rfl
theorem zS2{T}{base}{X}{v}{w}(h:ItsV T base X v w):∀k,v.ownBlock=some k->base<=k:=fun k hk=>(World.ownsRow.lt h k hk).1
def bvs(xs:List Int):List Value:=xs.map (.int .u8)
theorem zD9(xs ys):bvs (xs++ys)=bvs xs++bvs ys:=by simp[bvs]
theorem zDl:(Tryz.prog.info? 5).map (fun i=>(i.zero,i.size,i.bytes))=some (some (.int .u8 0),1,1):=by kernel_rfl
def zCB(base:Nat)(xs:List Int)(v:Value)(w:World):Prop:=w.ownsRow base 5 1 v xs.length (bvs xs)
theorem zCB.went{base}{X}{v}{w w'}(h:zCB base X v w)(hb:Below w.heap.size w w'):zCB base X v w':=Sep.zAE h fun g hg=>hb.block g (h.lt g hg).2
theorem zCB.nil(base)(w):zCB base [] (.slice none 0 0) w:=World.ownsRow_nil _ _ _ _
theorem zCB.shape{base}{X}{v}{w}(h:zCB base X v w):∃a c,v=.slice a X.length c:=by
 obtain⟨a,c,e⟩:=Sep.zBC h;exact⟨a,c,e⟩
theorem zCB.text{base}{X}{a}{c}{w}(h:zCB base X (.slice a X.length c) w):
  (convert 39 9 (.slice a X.length c)).run Tryz.prog w=.ok (.string (strOfNums X)) w:=by
 rcases h.2 with⟨e1,h0⟩|⟨g,cap,cur,he,_⟩
 ·have e:X=[]:=List.eq_nil_of_length_eq_zero h0;subst e;simp only[Value.slice.injEq]at e1;obtain⟨rfl,_,rfl⟩:=e1;exact run_convert_bytes_nil w 39 5 Tryz.underlying39 Tryz.underlying5 _ _ 9 Tryz.underlying9
 ·simp only[Value.slice.injEq]at he;obtain⟨rfl,_,_⟩:=he;have hc:=World.ownsRow.cells h (g:=g) rfl;refine run_convert_bytes_arg w 39 5 Tryz.underlying39 Tryz.underlying5 g 0 X.length c X rfl (fun i hi=>?_) 9 Tryz.underlying9;have:=hc i (.int .u8 (X.getD i 0)) (by simp[bvs,hi])
  rwa [WideShapes.add_plain]at this
theorem zOr(w:World)(n)(hn:n=w.heap.size)(x y z)(t):∀j u,[x,y,z][j]?=some u->(w.alloc (.cells #[x,y,z] t)).cell? ((⟨n,0,none⟩:Addr).add j)=some u:=by
 intro j u hj;subst hn;rw[WideShapes.add_plain]
 match j,hj with
 |0,hj=>exact zAC rfl (by simpa using hj)
 |1,hj=>exact zAC rfl (by simpa using hj)
 |2,hj=>exact zAC rfl (by simpa using hj)
theorem zCB.more{base}{L:List Itm}{v}{w}{k}(hk){p q r}(e:[p,q,r]=kb L[k]){n}(hn:n=(keyL (L.take k)).length+3)(h:w.ownsRow base 5 1 v n (bvs (keyL (L.take k))++[.int .u8 p,.int .u8 q,.int .u8 r])):zCB base (keyL (L.take (k+1))) v w:=by
 subst hn
 have ht:keyL (L.take (k+1))=keyL (L.take k)++[p,q,r]:=by
  rw[List.take_succ_eq_append_getElem hk,zNP,e]
 unfold zCB;rw[ht,zD9,List.length_append];exact h
theorem zS7(L:List Itm)(a:Option Addr)(c:Nat)(w:World)(kl:ItsA a L w)(hf:Fit3 L)(hL:L.length<=1000000):
  Calls Tryz.prog 130 #[.slice a L.length c] w (Gr.Is (.string (keyB L)) w):=by
 obtain⟨i0,hi,hz0,hz1,hz2⟩:=info_parts zDl;have KL:=zV7 (fun w1 (b:Below w.heap.size w w1)=>kl.went b);have HF:=zV7 hf;have B0:=zV7 (zCB.nil w.heap.size w);clear kl hf;go_enter Tryz.func130,Tryz.ntmps130;go_wp2;go_loopw [3,8] (fun v i wr=>∃j:Nat,j<=L.length/\i=.int .i64 j/\zCB w.heap.size (keyL (L.take j)) v wr/\Below w.heap.size w wr) (fun _ i _=>L.length-(intOf i).toNat)
 case atStart=>exact⟨0,Nat.zero_le _,rfl,B0.out,.refl _ _⟩
 case round=>
  obtain⟨j,hj,rfl,hB,hW⟩:=hrel;obtain⟨av,cv,rfl⟩:=hB.shape;clear B0
  by_cases hlt:j<L.length
  ·obtain⟨b,o,rfl,c0,c1⟩:=(KL.out wr hW).at j hlt;have hx:=HF.out _ (List.getElem_mem hlt);have HM:=zV7 (fun(v:Value) (w':World) (n:Nat) (p q r:Int) e hn h=>zCB.more (base:=w.heap.size) (v:=v) (w:=w') hlt (p:=p) (q:=q) (r:=r) (n:=n) e hn h)
   have hl:(keyL (L.take j)).length<=3000000:=by
    rw[zFM,List.length_take];omega
   have B:=zV7 hB;have W:=zV7 hW;clear hB hW;have e1:((L[j].1,L[j].2):Itm)=L[j]:=rfl;generalize L[j]=x at*;obtain⟨x0,x1⟩:=x;dsimp only at c0 c1 hx;clear e1;generalize keyL (L.take j)=X at B HM hl
   have hk:[x0 % 256,x0 / 256,x1]=kb (x0,x1):=by
    unfold kb;dsimp only;rw[show x0 / 256 % 256=x0 / 256 by omega,show x1 % 256=x1 by omega]
   have hs0:(wr.alloc (.cells #[.int .i64 x0,.int .i64 x1] 181)).heap.size=wr.heap.size+1:=by simp
   have HB2:=zV7 (Gr.step W.out (Gr.step (boxed wr (.cells #[.int .i64 x0,.int .i64 x1] 181)) (boxed _ (.cells #[.int .u8 (x0 % 256),.int .u8 (x0 / 256),.int .u8 x1] 5))));have RB:=zV7 (B.out.went (Gr.step (boxed wr (.cells #[.int .i64 x0,.int .i64 x1] 181)) (boxed _ (.cells #[.int .u8 (x0 % 256),.int .u8 (x0 / 256),.int .u8 x1] 5))));have NW:=zV7 (zOr (wr.alloc (.cells #[.int .i64 x0,.int .i64 x1] 181)) (wr.heap.size+1) hs0.symm (.int .u8 (x0 % 256)) (.int .u8 (x0 / 256)) (.int .u8 x1) 5);have hsz:=HB2.out.size;have hbl:∀g,(Value.slice av X.length cv).ownBlock=some g->w.heap.size<=g:=fun g hg=>(World.ownsRow.lt B.out g hg).1
   have HBL:=zV7 hbl;clear hbl B W;go_wp2_with (at_builtin;refine wpList_append_own_at _ rfl _ _ 39 rfl w.heap.size 5 i0 (.int .u8 0) 1 1 Tryz.underlying39 hi hz0 hz1 hz2 rfl (by decide) _ _ _ rfl RB.out ⟨wr.heap.size+1,0,none⟩ 3 3 [.int .u8 (x0 % 256),.int .u8 (x0 / 256),.int .u8 x1] rfl rfl NW.out (by simp[Value.oneCell']) (by unfold maxLen;omega) (by omega) hsz ?_;intro v' w' hown hg _ _;have HO:=zV7 hown;have HG:=zV7 (HB2.out.trans (zA5 hg hsz HBL.out));clear hown hg);go_roundw
   case rel=>exact⟨j+1,by omega,by go_num,HM.out _ _ _ _ _ _ hk rfl HO.out,HG.out⟩
   case measure=>simp[intOf];omega
  ·have hE:j=L.length:=by omega
   subst hE;rw[List.take_length]at hB;rw[List.take_length];have T:=hB.text;have HK:=zV7 (show strOfNums (keyL L)=keyB L from rfl);generalize keyL L=X at*;generalize strOfNums X=s at*;go_wp2;have e:=HK.out;subst e;go_ret;exact⟨rfl,hW⟩
end Au
namespace Pk
open Go.RowKit Go.Maps
open Gr (zBZ Fits cell_later)
open Im (ItsA)
theorem zAA{w:World}{b}{cs}{T}(h:w.heap[b]?=some (.cells cs T (0,0))){k}(hk):w.cell? ⟨b,k,none⟩=some cs[k]:=by
 unfold World.cell?;simp only[h];exact Array.getElem?_eq_getElem hk
theorem zAM{w:World}{b k}{cs}{T}(h:w.heap[b]?=some (.cells cs T (0,0))):w.frozen? ⟨b,k,none⟩=false:=by
 simp[World.frozen?,h]
theorem zAU{w:World}{b k}{cs}{T}(h:w.heap[b]?=some (.cells cs T (0,0)))(v):(w.setCell ⟨b,k,none⟩ v).heap[b]?=some (.cells (cs.setIfInBounds k v) T (0,0)):=by
 rw[setCell_eq_setRow w b k cs T (0,0) v h];exact setRow_heap w b cs _ T (0,0) h
theorem zAd(w:World)(o):(w.alloc o).heap[w.heap.size]?=some o:=Array.getElem?_push_size
def IntA(a:Option Addr)(L:List Int)(w:World):Prop:=Sep.Reads a (L.map (.int .i64)) w
def CodA(a:Option Addr)(L:List Int)(w:World):Prop:=Sep.Reads a (L.map (.int .u16)) w
theorem IntA.went{a}{L}{w w'}(h:IntA a L w)(hb:Below w.heap.size w w'):IntA a L w':=h.below hb (Nat.le_refl _)
theorem CodA.went{a}{L}{w w'}(h:CodA a L w)(hb:Below w.heap.size w w'):CodA a L w':=h.below hb (Nat.le_refl _)
theorem IntA.at{a}{L}{w}(h:IntA a L w){i}(hi):∃b o,a=some ⟨b,o,none⟩/\w.cell? ⟨b,o+i,none⟩=some (.int .i64 L[i]):=by
 obtain⟨b,o,e,h1⟩:=h i (by simpa using hi);exact⟨b,o,e,by simpa using h1⟩
theorem CodA.at{a}{L}{w}(h:CodA a L w){i}(hi):∃b o,a=some ⟨b,o,none⟩/\w.cell? ⟨b,o+i,none⟩=some (.int .u16 L[i]):=by
 obtain⟨b,o,e,h1⟩:=h i (by simpa using hi);exact⟨b,o,e,by simpa using h1⟩
def zEf{α:Type}(R:Option Addr->List α->World->Prop)(a:Option Addr)(X:List (List α))(w:World):Prop:=
 ∀i (h:i<X.length),∃b o ra rc,a=some ⟨b,o,none⟩/\w.cell? ⟨b,o+i,none⟩=some (.slice ra X[i].length rc)/\R ra X[i] w/\X[i].length<=rc/\X[i].length<=35184372088832
theorem zEf.went{α}{R}(hR:∀{a X w w'},R a X w->Below w.heap.size w w'->R a X w'){a}{X:List (List α)}{w w'}(h:zEf R a X w)(hb:Below w.heap.size w w'):zEf R a X w':=fun i hi=>by
 obtain⟨b,o,ra,rc,e,h1,h2,h3⟩:=h i hi;exact⟨b,o,ra,rc,e,cell_later hb h1,hR h2 hb,h3⟩
theorem zEf.nil{α}(R:Option Addr->List α->World->Prop)(a)(w):zEf R a [] w:=fun i hi=>absurd hi (Nat.not_lt_zero _)
abbrev zVM:=zEf ItsA
abbrev zVQ:=zEf IntA
abbrev zGi:=zEf CodA
def RulA(a:Option Addr)(R:List (Int×List Int))(w:World):Prop:=
 ∀i (h:i<R.length),∃b o ra rc,a=some ⟨b,o,none⟩/\w.cell? ⟨b,o+i*2,none⟩=some (.int .i64 R[i].1)/\w.cell? ⟨b,o+i*2+1,none⟩=some (.slice ra R[i].2.length rc)/\IntA ra R[i].2 w/\R[i].2.length<=17592186044416
theorem RulA.of{a}{R}{w}(h:zBZ a R w):RulA a R w:=fun i hi=>by
 obtain⟨b,o,ra,rc,e,h1,h2,h3,_,h5⟩:=h i hi;exact⟨b,o,ra,rc,e,h1,h2,h3,h5⟩
theorem RulA.went{a}{R}{w w'}(h:RulA a R w)(hb:Below w.heap.size w w'):RulA a R w':=fun i hi=>by
 obtain⟨b,o,ra,rc,e,h1,h2,h3,h5⟩:=h i hi;exact⟨b,o,ra,rc,e,cell_later hb h1,cell_later hb h2,h3.went hb,h5⟩
structure TFit (T:Tb):Prop where
 t:Fits T.terms
 n:Fits T.nons
 left:∀r∈T.rules,Fits r.1
 right:∀r∈T.rules,∀x∈r.2,Fits x
 acts:∀r∈T.acts,∀x∈r,Fits x.1/\Fits x.2
 goto:∀r∈T.goto,∀x∈r,Fits x
structure TSm (T:Tb):Prop where
 rl:T.rules.length<=100000
 al:T.acts.length<=100000
 gl:T.goto.length<=100000
 rr:∀r∈T.rules,r.2.length<=100000
 ar:∀r∈T.acts,r.length<=100000
 gr:∀r∈T.goto,r.length<=100000
def tvs(T:Tb)(aR:Option Addr)(cR:Nat)(aA:Option Addr)(cA:Nat)(aG:Option Addr)(cG:Nat):Array Value:=#[.slice aR T.rules.length cR,.int .i64 T.terms,.int .i64 T.nons,.slice aA T.acts.length cA,.slice aG T.goto.length cG]
structure TAt (T:Tb) (aR:Option Addr) (cR:Nat) (aA:Option Addr) (cA:Nat) (aG:Option Addr) (cG:Nat) (w:World):Prop where
 rules:RulA aR T.rules w
 acts:zVM aA T.acts w
 goto:zVQ aG T.goto w
 rc:T.rules.length<=cR
 rl:T.rules.length<=4398046511104
 al:T.acts.length<=8796093022208
 gl:T.goto.length<=8796093022208
 fit:TFit T
section
variable {T:Tb} {aR:Option Addr} {cR:Nat} {aA:Option Addr} {cA:Nat} {aG:Option Addr} {cG b:Nat} {w w':World}
theorem TAt.went(h:TAt T aR cR aA cA aG cG w)(hb:Below w.heap.size w w'):TAt T aR cR aA cA aG cG w':=
 ⟨h.rules.went hb,h.acts.went (fun k=>k.went) hb,h.goto.went (fun k=>k.went) hb,h.rc,h.rl,h.al,h.gl,h.fit⟩
def TBox(T:Tb)(aR:Option Addr)(cR:Nat)(aA:Option Addr)(cA:Nat)(aG:Option Addr)(cG:Nat)(b:Nat)(w:World):Prop:=
 w.cell? ⟨b,0,none⟩=some (.slice aR T.rules.length cR)/\w.cell? ⟨b,1,none⟩=some (.int .i64 T.terms)/\w.cell? ⟨b,2,none⟩=some (.int .i64 T.nons)/\w.cell? ⟨b,3,none⟩=some (.slice aA T.acts.length cA)/\w.cell? ⟨b,4,none⟩=some (.slice aG T.goto.length cG)
theorem TBox.went(h:TBox T aR cR aA cA aG cG b w)(hb:Below w.heap.size w w'):TBox T aR cR aA cA aG cG b w':=by
 obtain⟨h0,h1,h2,h3,h4⟩:=h;exact⟨cell_later hb h0,cell_later hb h1,cell_later hb h2,cell_later hb h3,cell_later hb h4⟩
theorem zAp(w:World)(U):TBox T aR cR aA cA aG cG w.heap.size (w.alloc (.cells (tvs T aR cR aA cA aG cG) U)):=by
 refine⟨?_,?_,?_,?_,?_⟩<;>simp[tvs]
end
structure PFit (P:Pd):Prop where
 t:Fits P.terms
 n:Fits P.nons
 left:∀r∈P.rules,Fits r.1
 right:∀r∈P.rules,∀x∈r.2,Fits x
 row:∀x∈P.row,Fits x
 gow:∀x∈P.gow,Fits x
 rows:∀r∈P.rows,∀x∈r,Cd x
 gows:∀r∈P.gows,∀x∈r,Cd x
structure PSm (P:Pd):Prop where
 rl:P.rules.length<=100000
 wl:P.row.length<=100000
 gl:P.gow.length<=100000
 wsl:P.rows.length<=100000
 gsl:P.gows.length<=100000
 rr:∀r∈P.rules,r.2.length<=100000
 wr:∀r∈P.rows,r.length<=100000
 gr:∀r∈P.gows,r.length<=100000
def pvs(P:Pd)(aR:Option Addr)(cR:Nat)(aW:Option Addr)(cW:Nat)(aX:Option Addr)(cX:Nat)(aG:Option Addr)(cG:Nat)(aH:Option Addr)(cH:Nat):Array Value:=
 #[.slice aR P.rules.length cR,.int .i64 P.terms,.int .i64 P.nons,.slice aW P.row.length cW,.slice aX P.rows.length cX,.slice aG P.gow.length cG,.slice aH P.gows.length cH]
structure PAt (P:Pd) (aR:Option Addr) (cR:Nat) (aW:Option Addr) (cW:Nat) (aX:Option Addr) (cX:Nat) (aG:Option Addr) (cG:Nat) (aH:Option Addr) (cH:Nat) (w:World):Prop where
 rules:RulA aR P.rules w
 row:IntA aW P.row w
 rows:zGi aX P.rows w
 gow:IntA aG P.gow w
 gows:zGi aH P.gows w
 rc:P.rules.length<=cR
 wc:P.row.length<=cW
 xc:P.rows.length<=cX
 gc:P.gow.length<=cG
 hc:P.gows.length<=cH
 rl:P.rules.length<=4398046511104
 wl:P.row.length<=17592186044416
 xl:P.rows.length<=8796093022208
 gl:P.gow.length<=17592186044416
 hl:P.gows.length<=8796093022208
 fit:PFit P
section
variable {P:Pd} {aR:Option Addr} {cR:Nat} {aW:Option Addr} {cW:Nat} {aX:Option Addr} {cX:Nat} {aG:Option Addr} {cG:Nat} {aH:Option Addr} {cH b:Nat} {w w':World}
theorem PAt.went(h:PAt P aR cR aW cW aX cX aG cG aH cH w)(hb:Below w.heap.size w w'):PAt P aR cR aW cW aX cX aG cG aH cH w':=
 ⟨h.rules.went hb,h.row.went hb,h.rows.went (fun k=>k.went) hb,h.gow.went hb,h.gows.went (fun k=>k.went) hb,h.rc,h.wc,h.xc,h.gc,h.hc,h.rl,h.wl,h.xl,h.gl,h.hl,h.fit⟩
def PBox(P:Pd)(aR:Option Addr)(cR:Nat)(aW:Option Addr)(cW:Nat)(aX:Option Addr)(cX:Nat)(aG:Option Addr)(cG:Nat)(aH:Option Addr)(cH:Nat)(b:Nat)(w:World):Prop:=
 w.cell? ⟨b,0,none⟩=some (.slice aR P.rules.length cR)/\w.cell? ⟨b,1,none⟩=some (.int .i64 P.terms)/\w.cell? ⟨b,2,none⟩=some (.int .i64 P.nons)/\w.cell? ⟨b,3,none⟩=some (.slice aW P.row.length cW)/\w.cell? ⟨b,4,none⟩=some (.slice aX P.rows.length cX)/\w.cell? ⟨b,5,none⟩=some (.slice aG P.gow.length cG)/\w.cell? ⟨b,6,none⟩=some (.slice aH P.gows.length cH)
theorem PBox.went(h:PBox P aR cR aW cW aX cX aG cG aH cH b w)(hb:Below w.heap.size w w'):PBox P aR cR aW cW aX cX aG cG aH cH b w':=by
 obtain⟨h0,h1,h2,h3,h4,h5,h6⟩:=h;exact⟨cell_later hb h0,cell_later hb h1,cell_later hb h2,cell_later hb h3,cell_later hb h4,cell_later hb h5,cell_later hb h6⟩
theorem zAr(w:World)(U):PBox P aR cR aW cW aX cX aG cG aH cH w.heap.size (w.alloc (.cells (pvs P aR cR aW cW aX cX aG cG aH cH) U)):=by
 refine⟨?_,?_,?_,?_,?_,?_,?_⟩<;>simp[pvs]
end
end Pk
namespace Lk
open Gr (Gram checkN zAl zAF zAY ofN zEl zAa zA9 zBe zA4)
open Im
open Au
open Fi (Fst zDG zC7 zFO)
def zJT(G:Gram)(x:Itm):List Int:=(zAF G x.1).2.drop (x.2+1).toNat
inductive La (G:Gram) (q:Whole):Nat->Itm->Int->Prop
 |start:La G q 0 ((G.rules.length:Int),0) 0
 |move {i j:Nat} {x:Itm} {t:Int}:La G q i x t->behB G x=true->leads (q.2.getD i []) (behV G x)=(j:Int)->La G q j (x.1,x.2+1) t
 |opens {i r:Nat} {x:Itm} {t u:Int}:La G q i x t->behB G x=true->r∈ofN G (behV G x)->zDG G (zJT G x++[t]) u->La G q i ((r:Int),0) u
theorem zPk{G}(hv:checkN G=0){t u}(ht:t=0\/zEl G t=true)(h:Fst G t u):u=t:=by
 generalize hx:t=x at h;cases h with
 |leaf _=>exact hx.symm▸rfl
 |rule hr _ _ _=>
  rename_i r pre y post
  exfalso
  obtain⟨i,hi,rfl⟩:=List.getElem_of_mem hr;have h1:=zBe (zAl hv).2.2.2.1 hi;rw[zA4 hi]at h1;have h2:=zAa.1 h1;rw[←hx]at h2;rcases ht with q|q
  ·omega
  ·have:=zA9.1 q;omega
theorem zCH{G}(hv:checkN G=0){t}(ht:t=0\/zEl G t=true):∀{l:List Int} {u:Int},zDG G (l++[t]) u↔zDG G l u\/((∀z∈l,Fi.Can G z)/\u=t)
 |[],u=>by
  rw[List.nil_append,zC7];constructor
  ·rintro(h|⟨_,h⟩)
   ·exact .inr ⟨(fun z hz=>by cases hz),zPk hv ht h⟩
   ·exact absurd h zFO
  ·rintro(h|⟨_,rfl⟩)
   ·exact absurd h zFO
   ·exact .inl (.leaf ht)
 |y::l,u=>by
  rw[List.cons_append,zC7,zC7,zCH hv ht];constructor
  ·rintro(h|⟨h,h1|⟨h1,h2⟩⟩)
   ·exact .inl (.inl h)
   ·exact .inl (.inr ⟨h,h1⟩)
   ·exact .inr ⟨fun z hz=>by
     rcases List.mem_cons.1 hz with e|e
     ·exact e▸h
     ·exact h1 z e,h2⟩
  ·rintro((h|⟨h,h1⟩)|⟨h1,h2⟩)
   ·exact .inl h
   ·exact .inr ⟨h,.inl h1⟩
   ·exact .inr ⟨h1 y (List.mem_cons_self ..),.inr ⟨fun z hz=>h1 z (List.mem_cons_of_mem _ hz),h2⟩⟩
theorem zG2{G}{q}{i}{x}{t}(h:La G q i x t):t=0\/zEl G t=true:=by
 induction h with
 |start=>exact .inl rfl
 |move _ _ _ ih=>exact ih
 |opens _ _ _ h _=>
  rename_i u _ _ _ _;have:=Fi.zCI h;rcases Int.lt_or_eq_of_le this.1 with e|e
  ·exact .inr (zA9.2 ⟨by omega,this.2⟩)
  ·exact .inl e.symm
theorem zDo{G}{q}(D:Done G q)(hv:checkN G=0){i}{x}{t}(h:La G q i x t):i<q.1.length/\Clo G (zAK q.1 i) x:=by
 induction h with
 |start=>
  refine⟨D.ok.pos,.of ?_ (zBS (Nat.le_refl _))⟩;rw[D.ok.zero];exact List.mem_singleton.2 rfl
 |move _ hb hl ih=>
  rename_i i j x t _;obtain⟨h1,h2⟩:=ih;obtain⟨r,d⟩:=x;obtain⟨b1,b2⟩:=zAu.1 hb;obtain⟨c1,c2⟩:=zAS.1 b1;dsimp only at c1 c2 b2;obtain⟨d,rfl⟩:=Int.eq_ofNat_of_zero_le c2.1
  have hr:zAY G r=true:=by
   unfold zAY;exact decide_eq_true c1
  have hd:d<(zAF G r).2.length:=by
   unfold rlen at b2;omega
  obtain⟨k,k1,k2,k3⟩:=D.one hv h1 hr hd (((zF5 _ _).2 _).2 h2);rw[←(zB6 hr hd).2,hl]at k2;obtain rfl:j=k:=by omega
  refine⟨k1,.of k3 ?_⟩;exact(D.ok.good _ (zBD k1)).2.2 _ k3
 |opens _ hb hr _ ih=>exact⟨ih.1,.next ih.2 hb hr⟩
open Classical in
noncomputable def laL(G:Gram)(q:Whole)(i:Nat)(x:Itm):List Nat:=(List.range (G.terms.length+1)).filter fun t=>decide (La G q i x (t:Int))
open Classical in
theorem zNf{G}{q}{i}{x}{t}:t∈laL G q i x↔La G q i x (t:Int):=by
 unfold laL;rw[List.mem_filter,List.mem_range];constructor
 ·exact fun h=>of_decide_eq_true h.2
 ·refine fun h=>⟨?_,decide_eq_true h⟩
  rcases zG2 h with e|e
  ·omega
  ·have:=(zA9.1 e).2;omega
def endI(G:Gram)(k:Nat):Itm:=((k:Int),((zAF G (k:Int)).2.length:Int))
open Classical in
noncomputable def zAo(G:Gram)(q:Whole)(i:Nat):List (Nat×List Nat):=((List.range (G.rules.length+1)).filter fun k=>decide (Clo G (zAK q.1 i) (endI G k))).map fun k=>(k,laL G q i (endI G k))
noncomputable def zCh(G:Gram)(q:Whole):List (List (Nat×List Nat)):=(List.range q.1.length).map (zAo G q)
theorem zBw(G)(q):(zCh G q).length=q.1.length:=by simp[zCh]
theorem zFC{G}{L}{x}(h:Clo G L x):behB G x=false↔∃k:Nat,k<=G.rules.length/\x=endI G k:=by
 have hr:=zAn h;obtain⟨⟨h1,h2⟩,h3,h4⟩:=zAS.1 hr;obtain⟨r,d⟩:=x;dsimp only at h1 h2 h3 h4;obtain⟨n,rfl⟩:=Int.eq_ofNat_of_zero_le h1;unfold rlen at h4;constructor
 ·intro hb;refine⟨n,by omega,?_⟩
  have:¬d<((zAF G (n:Int)).2.length:Int):=fun q=>by
   have:=zAu.2 ⟨hr,(show((n:Int),d).2<(rlen G ((n:Int),d).1:Int)from by unfold rlen;exact q)⟩;rw[hb]at this;cases this
  unfold endI;exact Prod.ext rfl (by dsimp only;omega)
 ·rintro⟨k,hk,e⟩;unfold endI at e;injection e with e1 e2
  obtain rfl:n=k:=by omega
  cases hb:behB G ((n:Int),d)with
  |false=>rfl
  |true=>
   have:=(zAu.1 hb).2;unfold rlen at this;dsimp only at this;omega
end Lk
namespace Ac
open Gr (Gram checkN zAF)
open Im
open Au
open Lk (La endI)
abbrev Ac2:=Int×Int
abbrev Cl4:=Int×Int×Ac2×Ac2
open Classical in
noncomputable def redB(G:Gram)(q:Whole)(i k t:Nat):Bool:=decide (La G q i (endI G k) (t:Int))
open Classical in
theorem zCa{G}{q}{i k t}:redB G q i k t=true↔La G q i (endI G k) (t:Int):=by
 unfold redB;rw[decide_eq_true_iff]
def zBY(q:Whole)(i t:Nat):List Ac2:=if 0<t/\0<=leads (q.2.getD i []) (t:Int)then[(1,leads (q.2.getD i []) (t:Int))]else[]
noncomputable def accL(G:Gram)(q:Whole)(i t:Nat):List Ac2:=if redB G q i G.rules.length t=true then[(3,0)]else[]
noncomputable def redL(G:Gram)(q:Whole)(i t:Nat):List Ac2:=((List.range G.rules.length).filter fun k=>redB G q i k t).map fun k:Nat=>(2,(k:Int))
noncomputable def actL(G:Gram)(q:Whole)(i t:Nat):List Ac2:=zBY q i t++accL G q i t++redL G q i t
noncomputable def fstA(G:Gram)(q:Whole)(i t:Nat):Ac2:=(actL G q i t).headD (0,0)
noncomputable def cellC(G:Gram)(q:Whole)(i t:Nat):List Cl4:=(actL G q i t).tail.map fun b=>((i:Int),(t:Int),fstA G q i t,b)
noncomputable def rowC(G:Gram)(q:Whole)(i:Nat):List Cl4:=(List.range (G.terms.length+1)).flatMap (cellC G q i)
noncomputable def zBP(G:Gram)(q:Whole):List Cl4:=(List.range q.1.length).flatMap (rowC G q)
noncomputable def zVZ(G:Gram)(q:Whole)(i:Nat):List Ac2:=(List.range (G.terms.length+1)).map (fstA G q i)
def zVg(G:Gram)(q:Whole)(i:Nat):List Int:=(List.range G.nons.length).map fun k:Nat=>leads (q.2.getD i []) ((G.terms.length+1+k:Nat):Int)
structure Tb5 where
 rules:List (Int×List Int)
 acts:List (List Ac2)
 goto:List (List Int)
 terms:Int
 nons:Int
noncomputable def tabL(G:Gram)(q:Whole):Tb5:=⟨G.rules++[zAF G (G.rules.length:Int)],(List.range q.1.length).map (zVZ G q),(List.range q.1.length).map (zVg G q),(G.terms.length:Int),(G.nons.length:Int)⟩
def tab0:Tb5:=⟨[],[],[],0,0⟩
inductive TabIs (G:Gram):Int->Tb5->Prop
 |bad {er:Int}:Built G er []->er≠0->TabIs G er tab0
 |clash {q:Whole}:checkN G=0->Done G q->q.1.length<=2000->Built G 0 (states q)->zBP G q≠[]->TabIs G 12 tab0
 |all {q:Whole}:checkN G=0->Done G q->q.1.length<=2000->Built G 0 (states q)->zBP G q=[]->TabIs G 0 (tabL G q)
theorem zK9{G}{q}(h:zBP G q=[]){i t}(hi:i<q.1.length)(ht:t<G.terms.length+1):(actL G q i t).length<=1:=by
 unfold zBP rowC at h;rw[List.flatMap_eq_nil_iff]at h;have h1:=h i (List.mem_range.2 hi);rw[List.flatMap_eq_nil_iff]at h1;have h2:=h1 t (List.mem_range.2 ht);unfold cellC at h2;rw[List.map_eq_nil_iff]at h2;rcases hl:actL G q i t with _|⟨a,_|⟨b,l⟩⟩
 ·simp
 ·simp
 ·rw[hl]at h2;simp at h2
end Ac
namespace Au
open Go.RowKit Go.Maps
open Gr (boxed cell_later zAx)
open Im
structure Small (X:List Sta):Prop where
 len:X.length<=1000000
 items:∀s∈X,s.1.length<=1000000
 trans:∀s∈X,s.2.length<=1000000
def inB(X:List Sta)(i:Int):Bool:=decide (0<=i/\i<(X.length:Int))
def zOt(X:List Sta)(i:Nat):List (Int×Int):=(X.getD i ([],[])).2
def zEh(X:List Sta)(i s:Int):Int:=if inB X i then leads (zOt X i.toNat) s else-1
theorem zSx{X}{i:Nat}(h:i<X.length):inB X (i:Int)=true:=decide_eq_true ⟨by omega,by omega⟩
theorem zSw{X}{i}:inB X i=true↔0<=i/\i<(X.length:Int):=decide_eq_true_iff
theorem zEr{X}{i:Nat}(h)(s):zEh X (i:Int) s=leads X[i].2 s:=by
 unfold zEh zOt;rw[zSx h,if_pos rfl,Int.toNat_natCast,List.getD_eq_getElem?_getD,List.getElem?_eq_getElem h]
 rfl
theorem zFH{X}{i}(h:inB X i=false)(s):zEh X i s= -1:=by
 unfold zEh;rw[h,if_neg Bool.false_ne_true]
def zKt(tr:List (Int×Int))(s:Int)(k:Nat):Prop:=∀j (h:j<tr.length),j<k->tr[j].1≠s
theorem zLe(tr)(s):zKt tr s 0:=fun _ _ h=>absurd h (by omega)
theorem zLd{tr}{s}{k}(h:zKt tr s k)(hk)(e:tr[k].1≠s):zKt tr s (k+1):=fun j hj hl=>by
 by_cases he:j=k
 ·subst he;exact e
 ·exact h j hj (by omega)
theorem zNV{tr}{s}{k}(h:zKt tr s k)(hk)(e:tr[k].1=s):leads tr s=tr[k].2:=by
 unfold leads
 have:tr.find? (fun x=>decide (x.1=s))=some tr[k]:=by
  rw[List.find?_eq_some_iff_getElem]
  exact⟨decide_eq_true e,k,hk,rfl,fun j hj=>by
   have:=h j (by omega) hj
   simpa using this⟩
 rw[this]
 rfl
theorem zNU{tr}{s}{k}(h:zKt tr s k)(hk:¬k<tr.length):leads tr s= -1:=by
 unfold leads
 have:tr.find? (fun x=>decide (x.1=s))=none:=by
  rw[List.find?_eq_none];intro x hx;obtain⟨j,hj,rfl⟩:=List.mem_iff_getElem.1 hx;have:=h j hj (by omega)
  simpa using this
 rw[this]
 rfl
def zGD(X:List Sta)(i:Int):List Int->Int
 |[]=>if inB X i then i else-1
 |s::way=>if inB X i then zGD X (zEh X i s) way else-1
theorem zM9(X):inB X (-1)=false:=decide_eq_false (fun h=>by omega)
theorem zFt{X}{i}(h:inB X i=false)(way):zGD X i way= -1:=by
 cases way with
 |nil=>simp[zGD,h]
 |cons s way=>simp[zGD,h]
theorem zL3(X)(i s)(way):zGD X i (s::way)=zGD X (zEh X i s) way:=by
 cases h:inB X i with
 |true=>simp[zGD,h]
 |false=>rw[zFt h,zFH h,zFt (zM9 X)]
theorem zOz{X}{ts}(e:∀i (h:i<X.length),X[i].2=ts.getD i []):∀(way:List Int) (i:Int),zEm X.length ts i way=zGD X i way
 |[],i=>by
  unfold zEm zGD inB
  by_cases hi:0<=i/\i<(X.length:Int)
  ·rw[if_pos hi,decide_eq_true hi,if_pos rfl]
  ·rw[if_neg hi,decide_eq_false hi,if_neg Bool.false_ne_true]
 |s::way,i=>by
  have hw:zEm X.length ts i (s::way)=if 0<=i/\i<(X.length:Int)then zEm X.length ts (zF2 X.length ts i s) way else-1:=rfl;rw[hw,zL3]
  by_cases hi:0<=i/\i<(X.length:Int)
  ·rw[if_pos hi,zOz e way];obtain⟨n,rfl⟩:=Int.eq_ofNat_of_zero_le hi.1;have hn:n<X.length:=by omega
   congr 1
   rw[zEr hn,e n hn];unfold zF2;rw[if_pos hi,Int.toNat_natCast]
  ·rw[if_neg hi,zFH (decide_eq_false hi),zFt (zM9 X)]
theorem zL5(X)(a)(c)(i)(w)(hl:X.length<=1000000):
  Calls Tryz.prog 123 #[.slice a X.length c,.int .i64 i] w (Gr.Is (.bool (inB X i)) w):=by
 unfold inB;generalize X.length=n at*
 by_cases h0:0<=i
 ·by_cases h1:i<(n:Int)
  ·rw[decide_eq_true (p:=0<=i/\i<(n:Int)) ⟨h0,h1⟩];go_enter Tryz.func123,Tryz.ntmps123;go_wp2;go_ret;exact⟨rfl,.refl _ _⟩
  ·rw[decide_eq_false (p:=0<=i/\i<(n:Int)) (fun q=>h1 q.2)];go_enter Tryz.func123,Tryz.ntmps123;go_wp2;go_ret;exact⟨rfl,.refl _ _⟩
 ·rw[decide_eq_false (p:=0<=i/\i<(n:Int)) (fun q=>h0 q.1)];have h2:i<0:=by omega
  go_enter Tryz.func123,Tryz.ntmps123;go_wp2;go_ret;exact⟨rfl,.refl _ _⟩
theorem zGw(X:List Sta)(a:Option Addr)(c:Nat)(i s:Int)(w:World)(hX:StaA a X w)(sm:Small X):
  Calls Tryz.prog 99 #[.slice a X.length c,.int .i64 i,.int .i64 s] w (Gr.Is (.int .i64 (zEh X i s)) w):=by
 have WI:=zV7 (fun w1=>zL5 X a c i w1 sm.len);have hxl:=sm.len;cases hin:inB X i with
 |false=>
  rw[zFH hin];rw[hin]at WI;clear hX hin;go_enter Tryz.func99,Tryz.ntmps99;go_wp2_with (go_at_call 123;refine(WI.out _).mono ?_;rintro e w1 ⟨rfl,hb⟩;have HB:=zV7 hb;clear hb);go_ret;exact⟨rfl,HB.out⟩
 |true=>
  rw[hin]at WI;obtain⟨h0,h1⟩:=zSw.1 hin;obtain⟨k,rfl⟩:=Int.eq_ofNat_of_zero_le h0;have hk:k<X.length:=by omega
  rw[zEr hk];obtain⟨b,o,a1,c1,a2,c2,rfl,z1,z2,i1,i2,l1,l2⟩:=hX k hk;have TR:=zV7 (fun w1 (b:Below w.heap.size w w1)=>i2.went b);have hsm:=sm.trans _ (List.getElem_mem hk);have Z2:=zV7 (fun w1 (b:Below w.heap.size w w1)=>cell_later b z2);clear hX sm z1 z2 i1 i2 l1 hin h0 h1;generalize X[k].2=tr at*;generalize X.length=n at*;go_enter Tryz.func99,Tryz.ntmps99;go_wp2_with (go_at_call 123;refine(WI.out _).mono ?_;rintro e w1 ⟨rfl,hb⟩;have HB:=zV7 hb;have q2:=Z2.out _ hb;clear hb);go_loopw [19] (fun q wr=>∃j:Nat,q=.int .i64 j/\j<=tr.length/\zKt tr s j/\Below w.heap.size w wr) (fun q _=>tr.length-(intOf q).toNat)
  case atStart=>exact⟨0,rfl,Nat.zero_le _,zLe _ _,HB.out⟩
  case round=>
   obtain⟨j,rfl,hj,hN,hW⟩:=hrel;have N:=zV7 hN;have HW:=zV7 hW;clear hN
   by_cases hlt:j<tr.length
   ·obtain⟨b2,o2,rfl,p0,p1⟩:=(TR.out wr hW).at j hlt;have NS:=zV7 (fun e=>zLd N.out hlt e);have NH:=zV7 (fun e=>zNV N.out hlt e);have e1:((tr[j].1,tr[j].2):Itm)=tr[j]:=rfl;generalize tr[j]=x at*;obtain⟨x0,x1⟩:=x;dsimp only at p0 p1;clear e1 hW;have HA:=zV7 (Gr.step HW.out (boxed wr (.cells #[.int .i64 x0,.int .i64 x1] 197)))
    by_cases he:x0=s
    ·have E:=zV7 (NH.out he);subst he;clear NS NH;go_wp2;go_ret;exact⟨zAx E.out,HA.out⟩
    ·have E:=zV7 (NS.out he);clear NS NH;go_wp2;go_roundw
     case rel=>exact⟨j+1,by go_num,by omega,E.out,HA.out⟩
     case measure=>simp[intOf];omega
   ·have E:=zV7 (zNU N.out hlt);clear hW;go_wp2;go_ret;exact⟨zAx E.out,HW.out⟩
end Au
namespace Ac
open Gr (Gram checkN)
open Im
open Au
open Lk (zDo laL zNf endI zAo)
def augF(n:Nat)(Y:List (Nat×List Nat)):List (Nat×List Nat):=
 match Y.getLast? with
 |none=>Y
 |some y=>if y.1=n then y::Y.dropLast else Y
theorem zPF(n)(Y):(augF n Y).length=Y.length:=by
 unfold augF;cases h:Y.getLast? with
 |none=>rfl
 |some y=>
  dsimp only;split
  ·cases Y with
   |nil=>simp at h
   |cons a l=>simp
  ·rfl
def redA(n k:Nat):Ac2:=if k=n then(3,0)else(2,(k:Int))
open Classical in
theorem zGn(G:Gram)(q:Whole)(i:Nat):augF G.rules.length (zAo G q i)=
  (if Clo G (zAK q.1 i) (endI G G.rules.length)then[(G.rules.length,laL G q i (endI G G.rules.length))]else[])++
  ((List.range G.rules.length).filter fun k=>decide (Clo G (zAK q.1 i) (endI G k))).map fun k=>(k,laL G q i (endI G k)):=by
 have e:zAo G q i=(((List.range G.rules.length).filter fun k=>decide (Clo G (zAK q.1 i) (endI G k))).map fun k=>(k,laL G q i (endI G k)))++(if Clo G (zAK q.1 i) (endI G G.rules.length)then[(G.rules.length,laL G q i (endI G G.rules.length))]else[]):=by
  unfold zAo;rw[List.range_succ,List.filter_append,List.map_append,List.filter_cons];split<;>simp_all
 rw[e]
 have hlt:∀y∈(((List.range G.rules.length).filter fun k=>decide (Clo G (zAK q.1 i) (endI G k))).map fun k=>(k,laL G q i (endI G k))),y.1<G.rules.length:=by
  intro y hy;obtain⟨k,hk,rfl⟩:=List.mem_map.1 hy;exact List.mem_range.1 (List.mem_filter.1 hk).1
 revert hlt
 generalize (((List.range G.rules.length).filter fun k=>decide (Clo G (zAK q.1 i) (endI G k))).map fun k=>(k,laL G q i (endI G k)))=A;intro hlt;unfold augF;split
 ·next h=>
  rw[List.getLast?_eq_none_iff]at h;rw[h];obtain⟨h1,h2⟩:=List.append_eq_nil_iff.1 h;rw[h1,h2]
  rfl
 ·next y h=>
  by_cases hc:Clo G (zAK q.1 i) (endI G G.rules.length)
  ·rw[if_pos hc]at h⊢;rw[List.getLast?_concat]at h;injection h with h
   subst h;rw[if_pos rfl,List.dropLast_concat]
   rfl
  ·rw[if_neg hc]at h⊢;rw[List.append_nil]at h⊢;have:=hlt y (List.mem_of_getLast? h);rw[if_neg (by omega)]
   rfl
open Classical in
theorem zJp{G}{q}(D:Done G q)(hv:checkN G=0)(i t):
  ((augF G.rules.length (zAo G q i)).filter fun y=>decide (t∈y.2)).map (fun y=>redA G.rules.length y.1)=accL G q i t++redL G q i t:=by
 have hb:∀k,(decide (Clo G (zAK q.1 i) (endI G k))&&decide (t∈laL G q i (endI G k)))=redB G q i k t:=by
  intro k;rw[Bool.eq_iff_iff,Bool.and_eq_true,decide_eq_true_iff,decide_eq_true_iff,zCa,zNf];exact⟨fun h=>h.2,fun h=>⟨(zDo D hv h).2,h⟩⟩
 rw[zGn,List.filter_append,List.map_append]
 congr 1
 ·unfold accL;have:=hb G.rules.length
  by_cases hc:Clo G (zAK q.1 i) (endI G G.rules.length)
  ·rw[if_pos hc];rw[decide_eq_true hc,Bool.true_and]at this;rw[List.filter_cons];dsimp only;rw[this];cases redB G q i G.rules.length t<;>simp[redA]
  ·rw[if_neg hc];rw[decide_eq_false hc,Bool.false_and]at this;rw[←this];simp
 ·unfold redL;rw[List.filter_map,List.map_map,List.filter_filter];have e:((fun y:Nat×List Nat=>decide (t∈y.2)) ∘ fun k=>(k,laL G q i (endI G k)))=fun k=>decide (t∈laL G q i (endI G k)):=rfl
  rw[List.filter_congr (q:=fun k=>redB G q i k t) fun k _=>by rw[←hb k,Bool.and_comm];rfl];refine List.map_congr_left fun k hk=>?_
  have:=List.mem_range.1 (List.mem_filter.1 hk).1;show redA _ k= _;unfold redA;rw[if_neg (by omega)]
theorem zLf{α:Type}{Z:List α}{p}{m}(h)(hp:p Z[m]=true):(Z.filter p)[((Z.take m).filter p).length]?=some Z[m]:=by
 have e:Z=Z.take m++Z[m]::Z.drop (m+1):=by simp
 conv=>lhs;rw[e]
 rw[List.filter_append,List.filter_cons,if_pos hp,List.getElem?_append_right (by rw[←e];exact Nat.le_refl _)];simp
theorem zI1{α:Type}{Z:List α}{p}{m}(h):((Z.take (m+1)).filter p).length=((Z.take m).filter p).length+(if p Z[m]then 1 else 0):=by
 rw[List.take_succ_eq_append_getElem h,List.filter_append,List.length_append,List.filter_cons];split<;>simp
theorem zH7(G)(q)(i)(x):(laL G q i x).Pairwise (· < ·):=by
 unfold laL;exact List.Pairwise.filter _ List.pairwise_lt_range
noncomputable def augR(G:Gram)(q:Whole)(i:Nat):List (Nat×List Nat):=augF G.rules.length (zAo G q i)
theorem zKw{G}{q}{i}{y}(h:y∈augR G q i):y.2.Pairwise (· < ·)/\y.1<=G.rules.length:=by
 classical
 unfold augR at h;rw[zGn,List.mem_append,List.mem_map]at h;rcases h with h|⟨k,hk,rfl⟩
 ·split at h
  ·rw[List.mem_singleton]at h;subst h;exact⟨zH7 _ _ _ _,Nat.le_refl _⟩
  ·cases h
 ·have:=List.mem_range.1 (List.mem_filter.1 hk).1;exact⟨zH7 _ _ _ _,by dsimp only;omega⟩
def part(Z:List (Nat×List Nat))(t m:Nat):Nat:=((Z.take m).filter fun y=>decide (t∈y.2)).length
theorem zIL(Z)(t):part Z t 0=0:=by simp[part]
theorem zOA{Z}{t m}(h):part Z t (m+1)=part Z t m+(if t∈Z[m].2 then 1 else 0):=by
 unfold part;rw[zI1 h];simp
theorem zUH{G}{q}(D:Done G q)(hv:checkN G=0){i t m}(h)(ht:t∈(augR G q i)[m].2):
  (actL G q i t)[(zBY q i t).length+part (augR G q i) t m]?=some (redA G.rules.length (augR G q i)[m].1):=by
 unfold actL;rw[List.append_assoc,List.getElem?_append_right (by omega),←zJp D hv i t,Nat.add_sub_cancel_left,List.getElem?_map];have:=zLf (Z:=augR G q i) (p:=fun y=>decide (t∈y.2)) h (by simpa using ht);unfold part;rw[show augF G.rules.length (zAo G q i)=augR G q i from rfl,this]
 rfl
theorem zR7{G}{q}(D:Done G q)(hv:checkN G=0)(i t):(actL G q i t).length=(zBY q i t).length+part (augR G q i) t (augR G q i).length:=by
 unfold actL part;rw[List.append_assoc,List.length_append,←zJp D hv i t,List.length_map,List.take_length]
 rfl
theorem zNW(tr)(s):leads tr s= -1\/(s,leads tr s)∈tr:=by
 unfold leads;cases h:tr.find? (fun x=>x.1==s)with
 |none=>exact .inl (by simp)
 |some x=>
  refine .inr ?_;have h1:=List.find?_some h;have h2:=List.mem_of_find?_eq_some h;obtain⟨a,b⟩:=x;simp only[beq_iff_eq]at h1;subst h1;exact h2
theorem zEF{G}{q}(D:Done G q){i}(hi:i<q.1.length)(s):
  leads (q.2.getD i []) s= -1\/∃n:Nat,leads (q.2.getD i []) s=(n:Int)/\n<q.1.length/\1<=s:=by
 rcases zNW (q.2.getD i []) s with h|h
 ·exact .inl h
 ·obtain⟨n,h1,h2,_⟩:=D.to hi h;refine .inr ⟨n,h1,h2,?_⟩;have hl:i<q.2.length:=by rw[D.all];exact hi
  rw[D.ok.trans i hl]at h;obtain⟨j,_,rfl,_,_⟩:=zA8.1 h;omega
theorem zGN{G}{q}(D:Done G q){i}(hi:i<q.1.length)(s):zEh (states q) (i:Int) s=leads (q.2.getD i []) s:=by
 have hl:i<(states q).length:=by rw[zAv D.all];exact hi
 have h1:=zCO D.all hi;rw[List.getElem?_eq_getElem hl]at h1;injection h1 with h1
 rw[zEr hl,h1]
theorem zFo{G}{q}(D:Done G q){i}(hi:i<q.1.length)(t:Nat):
  (zEh (states q) (i:Int) (t:Int)= -1/\zBY q i t=[])\/∃n:Nat,zEh (states q) (i:Int) (t:Int)=(n:Int)/\n<q.1.length/\zBY q i t=[(1,(n:Int))]:=by
 rw[zGN D hi];unfold zBY;rcases zEF D hi (t:Int)with h|⟨n,h1,h2,h3⟩
 ·refine .inl ⟨h,?_⟩;rw[h,if_neg (by omega)]
 ·refine .inr ⟨n,h1,h2,?_⟩;rw[h1,if_pos (by omega)]
end Ac
namespace Au
open Go.RowKit Go.Maps
open Im
def LOk(Y:List Itm)(u v:Value)(w:World):Prop:=∃a c,u=.slice a Y.length c/\Y.length<=c/\ItsA a Y w/\(Y≠[]->∀b o,a=some ⟨b,o,none⟩->v.ownBlock≠some b)
theorem zGR{a}{Y}{w}(h:ItsA a Y w)(hn:Y≠[]){b o}(e:a=some ⟨b,o,none⟩):b<w.heap.size:=by
 cases Y with
 |nil=>exact absurd rfl hn
 |cons y Y=>
  obtain⟨b',o',e',hc⟩:=h 0 (by rw[zAe];simp);rw[e]at e';injection e' with e'
  injection e' with e1 e2
  subst e1;exact World.block_lt_of_cell? _ _ hc
theorem LOk.to{Y}{u v v'}{w w'}(h:LOk Y u v w)(hb:∀b,b<w.heap.size->v.ownBlock≠some b->w'.heap[b]?=w.heap[b]?)(hv:∀b,b<w.heap.size->v.ownBlock≠some b->v'.ownBlock≠some b):LOk Y u v' w':=by
 obtain⟨a,c,h1,h2,h3,h4⟩:=h
 by_cases hn:Y=[]
 ·subst hn;exact⟨a,c,h1,h2,.nil _ _,fun q=>absurd rfl q⟩
 ·exact⟨a,c,h1,h2,h3.keep fun b o e=>hb b (zGR h3 hn e) (h4 hn b o e),fun _ b o e=>hv b (zGR h3 hn e) (h4 hn b o e)⟩
theorem LOk.went{Y}{u v}{w w'}(h:LOk Y u v w)(hb:Below w.heap.size w w'):LOk Y u v w':=h.to (fun b hl _=>hb.block b hl) fun _ _ q=>q
theorem LOk.grown{Y}{u v v'}{w w'}(h:LOk Y u v w)(hg:w.grownBy w' v.ownBlock)(hv:v'.ownBlock=v.ownBlock\/∃n,w.heap.size<=n/\v'.ownBlock=some n):LOk Y u v' w':=
 h.to (fun b hl q=>hg.block b hl fun e=>q e.symm) fun b hl q e=>by
  rcases hv with h1|⟨n,hn,h1⟩
  ·exact q (h1.symm.trans e)
  ·rw[h1]at e;injection e with e
   omega
abbrev StC:=Sta×(Value×Value)
def sc(x:StC):List Value:=[x.2.1,x.2.2]
theorem zIX(x):(sc x).length=2:=rfl
structure StV (T:TypeId) (base:Nat) (L:List StC) (v:Value) (w:World):Prop where
 row:w.ownsRow base T 2 v L.length (L.flatMap sc)
 lists:∀x∈L,LOk x.1.1 x.2.1 v w/\LOk x.1.2 x.2.2 v w
theorem StV.went{T}{base}{L}{v}{w w'}(h:StV T base L v w)(hb:Below w.heap.size w w'):StV T base L v w':=
 ⟨Sep.zAE h.row fun g hg=>hb.block g (h.row.lt g hg).2,fun x hx=>⟨(h.lists x hx).1.went hb,(h.lists x hx).2.went hb⟩⟩
theorem StV.nil(T)(base)(w):StV T base [] (.slice none 0 0) w:=⟨World.ownsRow_nil _ _ _ _,fun x hx=>by cases hx⟩
theorem StV.len{T}{base}{L}{v}{w}(h:StV T base L v w):∃a c,v=.slice a L.length c/\L.length<=c:=by
 rcases h.row.2 with⟨rfl,h0⟩|⟨g,cap,cur,rfl,_,_,h5,_⟩
 ·exact⟨none,0,by rw[h0],by rw[h0];exact Nat.le_refl _⟩
 ·exact⟨_,cap,rfl,h5⟩
theorem StV.at{T}{base}{L}{a}{c}{w}(h:StV T base L (.slice a L.length c) w):StaA a (L.map Prod.fst) w:=by
 intro i hi;have hi':i<L.length:=by simpa using hi
 rcases h.row.2 with⟨_,h0⟩|⟨g,cap,cur,he,_⟩
 ·omega
 ·simp only[Value.slice.injEq]at he;obtain⟨rfl,_,_⟩:=he;have hc:=World.ownsRow.cells h.row (g:=g) rfl;obtain⟨⟨a1,c1,u1,l1,i1,_⟩,⟨a2,c2,u2,l2,i2,_⟩⟩:=h.lists _ (List.getElem_mem hi');have t0:=hc (i*2+0) _ (Rw.zBT sc zIX L i hi' 0 (by omega));have t1:=hc (i*2+1) _ (Rw.zBT sc zIX L i hi' 1 (by omega));rw[WideShapes.add_plain]at t0 t1;rw[List.getElem_map];refine⟨g,0,a1,c1,a2,c2,rfl,?_,?_,i1,i2,l1,l2⟩
  ·rw[←u1]
   simpa using t0
  ·rw[←u2]
   simpa using t1
theorem StV.snoc{T}{base}{L}{v v'}{w w'}(h:StV T base L v w)(x)(hx:LOk x.1.1 x.2.1 v w/\LOk x.1.2 x.2.2 v w)(hr:w'.ownsRow base T 2 v' (L.length+1) (L.flatMap sc++sc x))(hg:w.grownBy w' v.ownBlock)(hv:v'.ownBlock=v.ownBlock\/∃n,w.heap.size<=n/\v'.ownBlock=some n):StV T base (L++[x]) v' w':=by
 refine⟨?_,fun y hy=>?_⟩
 ·rw[List.length_append,List.flatMap_append]
  simpa using hr
 ·have key:LOk y.1.1 y.2.1 v w/\LOk y.1.2 y.2.2 v w:=by
   rcases List.mem_append.1 hy with q|q
   ·exact h.lists y q
   ·rw[List.mem_singleton]at q;rw[q];exact hx
  exact⟨key.1.grown hg hv,key.2.grown hg hv⟩
end Au
namespace Au
open Go.RowKit Go.Maps
open Gr (cell_later)
open Im
def upd{α:Type}(f:Nat->α)(s:Nat)(x:α):Nat->α:=fun r=>if r=s then x else f r
theorem upd_same{α}(f)(s)(x:α):upd f s x s=x:=if_pos rfl
theorem zAB{α}{f}{s r}{x:α}(h:r≠s):upd f s x r=f r:=if_neg h
structure Fam (T:TypeId) (b m n:Nat) (F:Nat->List Itm) (D:Nat->Value) (w:World):Prop where
 cell:∀s,s<n->w.cell? ⟨b,s,none⟩=some (D s)
 free:∀s,w.frozen? ⟨b,s,none⟩=false
 row:∀s,s<n->ItsV T m (F s) (D s) w
 off:∀s r,s<n->r<n->s≠r->∀g,(D s).ownBlock=some g->(D r).ownBlock≠some g
 bm:b<m
 le:m<=w.heap.size
theorem Fam.went{T}{b m n}{F}{D}{w w'}(h:Fam T b m n F D w)(hb:Below w.heap.size w w'):Fam T b m n F D w':=
 have hl:b<w.heap.size:=Nat.lt_of_lt_of_le h.bm h.le
 ⟨fun s hs=>cell_later hb (h.cell s hs),fun s=>(World.frozen?_of_block (a:=⟨b,s,none⟩) (hb.block b hl)).trans (h.free s),fun s hs=>(h.row s hs).went hb,h.off,h.bm,Nat.le_trans h.le hb.size⟩
theorem Fam.congr{T}{b m n}{F F'}{D}{w}(h:Fam T b m n F D w)(e:∀s,s<n->F s=F' s):Fam T b m n F' D w:=
 ⟨h.cell,h.free,fun s hs=>by rw[←e s hs];exact h.row s hs,h.off,h.bm,h.le⟩
theorem Fam.put{T}{b m n}{F}{D}{w w'}(h:Fam T b m n F D w){s}(hs:s<n){y}{v'}(hr:ItsV T m (F s++[y]) v' w')(hg:w.grownBy w' (D s).ownBlock)(hv:v'.ownBlock=(D s).ownBlock\/v'.ownBlock=some w.heap.size):
  Fam T b m n (upd F s (F s++[y])) (upd D s v') (w'.setCell ⟨b,s,none⟩ v'):=by
 have hl:b<w.heap.size:=Nat.lt_of_lt_of_le h.bm h.le;have own:∀r,r<n->∀g,(D r).ownBlock=some g->m<=g/\g<w.heap.size:=fun r hr g hg=>World.ownsRow.lt (h.row r hr) g hg
 have eb:w'.heap[b]?=w.heap[b]?:=hg.block b hl fun e=>by
  have:=(own s hs b e.symm).1;have:=h.bm;omega
 have own':∀g,v'.ownBlock=some g->m<=g:=fun g hg=>(World.ownsRow.lt hr g hg).1
 have other:∀g,g≠b->(w'.setCell ⟨b,s,none⟩ v').heap[g]?=w'.heap[g]?:=fun g hg=>Below.heap_setCell _ _ _ _ hg
 refine⟨fun r hr'=>?_,fun r=>?_,fun r hr'=>?_,fun r z hr' hq hne g e1 e2=>?_,h.bm,?_⟩
 ·by_cases e:r=s
  ·subst e;rw[upd_same];exact World.cell?_setCell_same _ _ _ ((World.cell?_of_block (a:=⟨b,r,none⟩) eb).trans (h.cell r hr'))
  ·rw[zAB e,World.cell?_setCell_other _ _ _ _ (fun q=>e (congrArg Addr.off q).symm)];exact(World.cell?_of_block (a:=⟨b,r,none⟩) eb).trans (h.cell r hr')
 ·rw[World.frozen?_setCell];exact(World.frozen?_of_block (a:=⟨b,r,none⟩) eb).trans (h.free r)
 ·by_cases e:r=s
  ·subst e;rw[upd_same,upd_same];exact hr.keep fun g e=>other g (by have:=own' g e;have:=h.bm;omega)
  ·rw[zAB e,zAB e];refine(h.row r hr').keep fun g hg'=>?_
   have h1:=own r hr' g hg';rw[other g (by have:=h.bm;omega)];exact hg.block g h1.2 fun q=>h.off r s hr' hs e g hg' q.symm
 ·by_cases er:r=s
  ·subst er;rw[upd_same]at e1;rw[zAB (fun q=>hne q.symm)]at e2;rcases hv with k|k
   ·exact h.off r z hr' hq hne g (k▸e1) e2
   ·have:=(own _ hq g e2).2;rw[k]at e1;injection e1 with e1
    omega
  ·rw[zAB er]at e1
   by_cases eq:z=s
   ·subst eq;rw[upd_same]at e2;rcases hv with q'|q'
    ·exact h.off r z hr' hq hne g e1 (q'▸e2)
    ·have:=(own _ hr' g e1).2;rw[q']at e2;injection e2 with e2
     omega
   ·rw[zAB eq]at e2;exact h.off r z hr' hq hne g e1 e2
 ·rw[show(w'.setCell ⟨b,s,none⟩ v').heap.size=w'.heap.size by simp[World.setCell]];exact Nat.le_trans h.le hg.size
theorem Fam.fr{T}{b m n}{F}{D}{w w'}{v'}(h:Fam T b m n F D w){s}(hs:s<n)(hg:w.grownBy w' (D s).ownBlock){w0}(f:Sep.Fr (· =b) w0 w)(hm:w0.heap.size<=m):Sep.Fr (· =b) w0 (w'.setCell ⟨b,s,none⟩ v'):=
 (f.grown hg fun k hk=> .inr (Nat.le_trans hm (World.ownsRow.lt (h.row s hs) k hk).1)).setCell _ rfl _
