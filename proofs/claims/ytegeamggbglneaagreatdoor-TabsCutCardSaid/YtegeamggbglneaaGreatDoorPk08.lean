/- Proof. -/
import Derived.Test.YtegeamggbglneaaGreatDoorPk03
set_option maxHeartbeats 2000000
set_option maxRecDepth 100000
set_option linter.unusedVariables false
namespace Go.Proofs.YtegeamggbglneaaGreatDoor
namespace Gr
open Go.RowKit Go.Maps
theorem Uf(w):(Instr.buildSlice 29 0 #[]).run Tryz.prog w=.ok (.slice (some ⟨w.heap.size,0,none⟩) 0 0) (w.alloc (.cells #[] 3)):=by kernel_rfl
theorem XH(l):∀u∈aN l,u.oneCell'=true:=by
 intro u hu;obtain⟨s,_,rfl⟩:=List.mem_map.1 hu
 rfl
theorem Mu(a:Option Addr)(l:List Int)(c:Nat)(w:World)(h:Sep.Reads a (aN l) w)(hl:l.length<=17592186044416):
  Calls Tryz.prog 75 #[.slice a l.length c] w (Listed l w):=by
 obtain⟨i0,hi,hz0,hz1,hz2⟩:=info_parts pB;cases a with
 |none=>
  have h0:l=[]:=by
   rcases l with _|⟨x,l⟩
   ·rfl
   ·obtain⟨_,_,e,_⟩:=h 0 (by simp[aN]);cases e
  subst h0;have hn:=Lib.run_eql_slice_nil (P:=Tryz.prog);go_enter Tryz.func75,Tryz.ntmps75;go_wp2;go_ret;exact⟨Option.none,_,rfl,.nil _ _,(fun _ h=>by cases h),.refl _ _⟩
 |some x=>
  have HB:=af (fun v (w1 w2:World) (h1:w2.ownsRow w.heap.size 3 1 v (0+l.length) ([]++aN l)) (h2:(w.alloc (.cells #[] 3)).grownBy w2 (some w.heap.size))=>show Listed l w (.returned v) w2 from by
   rw[Nat.zero_add,List.nil_append]at h1;obtain⟨a',c',rfl⟩:=Sep.zK h1
   exact⟨a',c',rfl,.dQ h1,Ia h1 (Nat.le_refl _),((Below.refl _ _).alloc (Nat.le_refl _) _).grown h2 (by simp) fun k hk=>by injection hk with hk;omega⟩)
  have HO:=af (World.ownsRow_made (base:=w.heap.size) (e:=3) (size:=1) w #[] 0 (Nat.le_refl _) (by simp) (by simp))
  have HN:=af (show∀(j:Nat) (u:Value),(aN l)[j]?=some u->(w.alloc (.cells #[] 3)).cell? (x.add j)=some u from fun j u hj=>by
   obtain⟨iU,rfl⟩:=List.getElem?_eq_some_iff.1 hj;obtain⟨b,o,e,hc⟩:=h j iU;injection e with e
   subst e;rw[WideShapes.add_plain]
   exact cell_later (boxed _ _) hc)
  have HL:=af (XH l);have hll:=Ut l;clear h;have hn:=Lib.run_eql_slice_nil (P:=Tryz.prog);have hb:=Uf;go_enter Tryz.func75,Tryz.ntmps75;go_wp2_with (at_builtin;refine wpList_append_own_at _ rfl _ _ 29 rfl w.heap.size 3 i0 (.int .i64 0) 1 8 Tryz.underlying29 hi hz0 hz1 hz2 rfl (by decide) _ _ _ rfl HO.out x l.length c (aN l) rfl (by simp[aN]) HN.out HL.out (by unfold maxLen;omega) (by omega) (by simp) ?_;intro v' w2 hown2 hg2 _ _;have HE:=af (HB.out v' w w2 hown2 hg2);clear hown2 hg2);go_ret;exact HE.out
def zWI(r:Int×List Int)(ok:Bool)(w:World)(e:Ending)(w':World):Prop:=
 ∃a c,e=.returned (.tuple #[.agg #[.int .i64 r.1,.slice a r.2.length c],.bool ok])/\Sep.Reads a (aN r.2) w'/\Below w.heap.size w w'
theorem MW{w}{q}{x}(h:w.cell? ⟨q,0,Option.none⟩=some (iv x)):Sep.Reads (some ⟨q,0,Option.none⟩) (aN [x]) w:=fun i hi=>by
 obtain rfl:i=0:=by simp[aN]at hi;omega
 exact⟨q,0,rfl,by simpa[aN]using h⟩
theorem yH(h:Sh)(G:ai)(i:Int)(w:World)(k:bI h G w):
  Calls Tryz.prog 98 #[gv h G,.int .i64 i] w (zWI (ax G i) (cN G i) w):=by
 have X:=af (Bx.start h G w 47);have hc3:=k.r2
 by_cases h0:i<0\/(G.rules.length:Int)<i
 ·obtain⟨e1,e2⟩:=WV h0;rw[e1,e2];clear k e1 e2
  by_cases h1:i<0
  ·clear h0;unfold gv;go_enter Tryz.func98,Tryz.ntmps98;go_wp2;exact bodyPost_ret (v:=.tuple #[.agg #[.int .i64 0,.slice Option.none 0 0],.bool false]) (by simp[results,Tryz.results98,go_sem]) rfl ⟨_,_,rfl,.nil _ _,(X.out.alloc _).below⟩
  ·have h2:(G.rules.length:Int)<i:=by omega
   clear h0;unfold gv;go_enter Tryz.func98,Tryz.ntmps98;go_wp2;exact bodyPost_ret (v:=.tuple #[.agg #[.int .i64 0,.slice Option.none 0 0],.bool false]) (by simp[results,Tryz.results98,go_sem]) rfl ⟨_,_,rfl,.nil _ _,(X.out.alloc _).below⟩
 ·by_cases h1:i=(G.rules.length:Int)
  ·subst h1;obtain⟨e1,e2⟩:=nK G;rw[e1,e2];clear k e1 e2 h0;unfold gv;go_enter Tryz.func98,Tryz.ntmps98;go_wp2;refine bodyPost_ret (v:=.tuple #[.agg #[.int .i64 0,.slice (some ⟨w.heap.size+1+1,0,Option.none⟩) 1 1],.bool true]) (by simp[results,Tryz.results98,go_sem]) rfl ⟨_,_,rfl,MW (bg (by simp) rfl),((X.out.alloc _).alloc _).below⟩
  ·obtain⟨j,rfl⟩:∃j:Nat,i=(j:Int):=⟨i.toNat,by omega⟩;have hj:j<G.rules.length:=by omega
   obtain⟨e1,e2⟩:=nN hj;rw[e1,e2];obtain⟨a1,c1,a2,c2,a3,c3⟩:=h;obtain⟨b,o,ra,rc,e,g1,g2,g3,g4,g5⟩:=k.rules j hj;dsimp only at e;subst e;generalize G.rules[j]=r at g1 g2 g3 g4 g5⊢;have hblt:b<w.heap.size:=World.block_lt_of_cell? w ⟨b,o+j*2,Option.none⟩ g1;have HR:=af (show Sep.Reads ra (aN r.2) w from g3);clear k e1 e2 h0 h1 g3;unfold gv;dsimp only;go_enter Tryz.func98,Tryz.ntmps98;go_wp2;obtain⟨wq,eU⟩:∃wq,((w.alloc (.cells #[.slice a1 G.terms.length c1,.slice a2 G.ah.length c2,.slice (some ⟨b,o,Option.none⟩) G.rules.length c3,.int .i64 G.start] 47)).alloc (.cells #[.int .i64 0,.slice Option.none 0 0] 55)).alloc (.cells #[.int .i64 r.1,.slice ra r.2.length rc] 55)=wq:=⟨_,rfl⟩;rw[eU];have q0:wq.cell? ⟨w.heap.size+1+1,0,Option.none⟩=some (.int .i64 r.1):=by rw[←eU];exact bg (by simp) rfl
   have q1:wq.cell? ⟨w.heap.size+1+1,1,Option.none⟩=some (.slice ra r.2.length rc):=by rw[←eU];exact bg (by simp) rfl
   have q2:wq.cell? ⟨w.heap.size+1,0,Option.none⟩=some (.int .i64 0):=by rw[←eU];exact gI (bg (by simp) rfl)
   have q3:wq.cell? ⟨w.heap.size+1,1,Option.none⟩=some (.slice Option.none 0 0):=by rw[←eU];exact gI (bg (by simp) rfl)
   have q4:wq.frozen? ⟨w.heap.size+1,0,Option.none⟩=false:=by rw[←eU];exact pU (i:=0) (boxed _ _) (yC (by simp)) (bg (by simp) rfl)
   have q5:wq.frozen? ⟨w.heap.size+1,1,Option.none⟩=false:=by rw[←eU];exact pU (i:=0) (boxed _ _) (yC (by simp)) (bg (by simp) rfl)
   have QB:=af (show Below w.heap.size w wq by rw[←eU];exact((X.out.alloc _).alloc _).below);have QC:=af (fun w1 (k:Below wq.heap.size wq w1)=>Mu ra r.2 rc w1 ((HR.out.below QB.out (Nat.le_refl _)).below k (Nat.le_refl _)) (by omega))
   have HQ:=af (show∀w',Below wq.heap.size wq w'->w'.cell? ⟨w.heap.size+1+1,0,Option.none⟩=some (.int .i64 r.1)/\w'.cell? ⟨w.heap.size+1+1,1,Option.none⟩=some (.slice ra r.2.length rc)/\Below w.heap.size w w'
    from fun w' hb=>⟨cell_later hb q0,cell_later hb q1,QB.out.trans (hb.mono QB.out.size)⟩)
   have HT:=af (show∀w' u v,Below wq.heap.size wq w'->((w'.setCell ⟨w.heap.size+1,0,Option.none⟩ u).setCell ⟨w.heap.size+1,1,Option.none⟩ v).cell? ⟨w.heap.size+1+1,0,Option.none⟩=some (.int .i64 r.1)/\((w'.setCell ⟨w.heap.size+1,0,Option.none⟩ u).setCell ⟨w.heap.size+1,1,Option.none⟩ v).cell? ⟨w.heap.size+1+1,1,Option.none⟩=some (.slice ra r.2.length rc)/\Below w.heap.size w ((w'.setCell ⟨w.heap.size+1,0,Option.none⟩ u).setCell ⟨w.heap.size+1,1,Option.none⟩ v)
    from fun w' u v hb=>⟨by rw[World.cell?_setCell_other _ _ _ _ (by intro e;simp at e),World.cell?_setCell_other _ _ _ _ (by intro e;simp at e)];exact cell_later hb q0,by rw[World.cell?_setCell_other _ _ _ _ (by intro e;simp at e),World.cell?_setCell_other _ _ _ _ (by intro e;simp at e)];exact cell_later hb q1,
     ((QB.out.trans (hb.mono QB.out.size)).setCell (by simp) _).setCell (by simp) _⟩)
   have gh:=drawn wq;clear eU X HR
   go_region_held3 (fun w'=>w'.cell? ⟨w.heap.size+1+1,0,Option.none⟩=some (.int .i64 r.1)/\w'.cell? ⟨w.heap.size+1+1,1,Option.none⟩=some (.slice ra r.2.length rc)/\Below w.heap.size w w')
    (first|exact HQ.out _ (by assumption)|exact HT.out _ _ _ (by assumption))
    (first
     |(go_at_call 75;refine(QC.out _ gh).mono ?_;rintro e wn ⟨a',c',rfl,hr,hnew,hb⟩;have Aq:=af hr;have HN:=af hnew;have kB:Below wq.heap.size wq wn:=step gh hb;have z2:=cell_later kB q2;have z3:=cell_later kB q3;have z4:=pU kB q4 q2;have z5:=pU kB q5 q2;clear hr hnew hb)
     |fail)
   go_wp2;have Cu:=World.block_lt_of_cell? wq ⟨w.heap.size+1,0,Option.none⟩ q2
   have f0:((wn.setCell ⟨w.heap.size+1,0,Option.none⟩ (.int .i64 r.1)).setCell ⟨w.heap.size+1,1,Option.none⟩ (.slice a' r.2.length c')).cell? ⟨w.heap.size+1,0,Option.none⟩=some (.int .i64 r.1):=by
    rw[World.cell?_setCell_other _ _ _ _ (by intro e;simp at e)];exact World.cell?_setCell_same _ _ _ z2
   have f1:((wn.setCell ⟨w.heap.size+1,0,Option.none⟩ (.int .i64 r.1)).setCell ⟨w.heap.size+1,1,Option.none⟩ (.slice a' r.2.length c')).cell? ⟨w.heap.size+1,1,Option.none⟩=some (.slice a' r.2.length c'):=by
    have y3:(wn.setCell ⟨w.heap.size+1,0,Option.none⟩ (.int .i64 r.1)).cell? ⟨w.heap.size+1,1,Option.none⟩=some (.slice Option.none 0 0):=by
     rw[World.cell?_setCell_other _ _ _ _ (by intro e;simp at e)];exact z3
    exact World.cell?_setCell_same _ _ _ y3
   have HF:=af (show Sep.Reads a' (aN r.2) ((wn.setCell ⟨w.heap.size+1,0,Option.none⟩ (.int .i64 r.1)).setCell ⟨w.heap.size+1,1,Option.none⟩ (.slice a' r.2.length c'))from Aq.out.keep fun b' o' e'=>by
    have hn:=HN.out _ e';have hn':wq.heap.size<=b':=hn;have Cv:w.heap.size+1<wq.heap.size:=Cu
    rw[Below.heap_setCell _ _ _ _ (by simp;omega),Below.heap_setCell _ _ _ _ (by simp;omega)])
   exact bodyPost_ret (v:=.tuple #[.agg #[.int .i64 r.1,.slice a' r.2.length c'],.bool true]) (by simp[results,Tryz.results98,go_sem,f0,f1]) rfl ⟨_,_,rfl,HF.out,(HT.out _ _ _ kB).2.2⟩
