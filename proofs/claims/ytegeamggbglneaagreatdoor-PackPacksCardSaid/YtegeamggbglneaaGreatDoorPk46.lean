/- A part of the proof. -/
import Derived.Test.YtegeamggbglneaaGreatDoorPk45
set_option maxHeartbeats 4000000
set_option maxRecDepth 100000
set_option linter.unusedVariables false
namespace Go.Proofs.YtegeamggbglneaaGreatDoor
open Go.RowKit Go.Maps
namespace Ac
open Gr (Gram cell_later boxed zA0)
open Au
open Rg
open Go.Proofs.YtegeamggbglneaaGreatDoor.Sep
attribute [local go_sem] Oper.semAt_some
def zAi(b:Nat)(T:TypeId)(sz n:Nat)(v:Nat->Value)(w:World):Prop:=∃cur,w.heap[b]?=some (.cells cur T (0,0))/\cur.size=sz/\∀j,j<n->cur[j]?=some (v j)
theorem zAi.cell{b sz n}{T}{v}{w}(h:zAi b T sz n v w){j}(hj:j<n):w.cell? ⟨b,j,none⟩=some (v j):=by
 obtain⟨cur,h1,h2,h3⟩:=h;unfold World.cell?;simp only[h1];exact h3 j hj
theorem zAi.some{b sz n}{T}{v}{w}(h:zAi b T sz n v w){j}(hj:j<sz):∃u,w.cell? ⟨b,j,none⟩=some u:=by
 obtain⟨cur,h1,h2,h3⟩:=h;unfold World.cell?;simp only[h1];exact⟨_,Array.getElem?_eq_getElem (by omega)⟩
theorem zAi.free{b sz n}{T}{v}{w}(h:zAi b T sz n v w)(j):w.frozen? ⟨b,j,none⟩=false:=by
 obtain⟨cur,h1,h2,h3⟩:=h;exact zAO h1
theorem zAi.lt{b sz n}{T}{v}{w}(h:zAi b T sz n v w):b<w.heap.size:=by
 obtain⟨cur,h1,h2,h3⟩:=h;exact(Array.getElem?_eq_some_iff.1 h1).1
theorem zAi.kept{b sz n}{T}{v}{w w'}(h:zAi b T sz n v w)(he:w'.heap[b]?=w.heap[b]?):zAi b T sz n v w':=by
 obtain⟨cur,h1,h2,h3⟩:=h;exact⟨cur,he.trans h1,h2,h3⟩
theorem zAi.went{b sz n}{T}{v}{w w'}(h:zAi b T sz n v w)(hb:Below w.heap.size w w'):zAi b T sz n v w':=h.kept (hb.block b h.lt)
theorem zAi.put{b sz n}{T}{v}{w}(h:zAi b T sz n v w)(hn:n<sz){u}(hu:u=v n):zAi b T sz (n+1) v (w.setCell ⟨b,n,none⟩ u):=by
 subst hu;obtain⟨cur,h1,h2,h3⟩:=h;refine⟨_,Rg.zAR h1 _,by simp[h2],fun j hj=>?_⟩
 by_cases e:j=n
 ·subst e;rw[Array.getElem?_setIfInBounds_self_of_lt (by omega)]
 ·rw[Array.getElem?_setIfInBounds_ne (fun e2=>e e2.symm)];exact h3 j (by omega)
theorem zAi.congr{b sz n}{T}{v v'}{w}(h:zAi b T sz n v w)(hv:∀j,j<n->v j=v' j):zAi b T sz n v' w:=by
 obtain⟨cur,h1,h2,h3⟩:=h;exact⟨cur,h1,h2,fun j hj=>by rw[h3 j hj,hv j hj]⟩
theorem zAi.made(w:World)(T)(cs)(v):zAi w.heap.size T cs.size 0 v (w.alloc (.cells cs T)):=⟨cs,World.alloc_heap_new _ _,rfl,fun j hj=>absurd hj (Nat.not_lt_zero j)⟩
theorem zFR(n:Nat)(hn:n<=10000)(w):
  (Instr.makeSlice 29 (.int .i64 (n:Int)) (.int .i64 (n:Int))).run Tryz.prog w=.ok (.slice (some ⟨w.heap.size,0,none⟩) n n) (w.alloc (.cells (madeCells #[.int .i64 0] n) 3)):=
 run_make_row' 29 3 (.int .i64 0) 8 Tryz.underlying29 zA0 rfl .i64 .i64 n (by omega) (by omega) w
def tgtV(G:Gram)(q:Whole)(i:Nat):Nat->Value:=fun k=> .int .i64 (leads (q.2.getD i []) ((G.terms.length+1+k:Nat):Int))
def zMK(G:Gram)(q:Whole)(i:Nat)(w:World)(e:Ending)(w':World):Prop:=∃b,e=.returned (.slice (some ⟨b,0,none⟩) G.nons.length G.nons.length)/\w.heap.size<=b/\zAi b 3 G.nons.length G.nons.length (tgtV G q i) w'/\Below w.heap.size w w'
theorem zJc(m:Am)(q:Whole)(w:World)(D:Dat m q w)(i:Nat)(hi:i<q.1.length):
  Calls Tryz.prog 64 #[.agg (amc m),.int .i64 (i:Int)] w (zMK m.G q i w):=by
 have hsm:=Fi.zBG D.hv;have hn:=hsm.n;have ht:=hsm.t;have hmk:=fun w=>zFR m.G.nons.length (by omega) w
 have hnS:=D.nS
 have GT:=zV7 (show∀(W1:World) (s:Nat),Below w.heap.size w W1->Calls Tryz.prog 99 #[.slice m.aS m.nS m.cS,.int .i64 (i:Int),.int .i64 (s:Int)] W1 (Gr.Is (.int .i64 (leads (q.2.getD i []) (s:Int))) W1)from fun W1 s b=>by
  rw[hnS,←zGN D.done hi]
  exact zGw (states q) m.aS m.cS i s W1 (D.sta.went b) D.small)
 have B1:=zV7 (boxed w (.cells (amc m) 104));have b2:=boxed (w.alloc (.cells (amc m) 104)) (.cells (madeCells #[.int .i64 0] m.G.nons.length) 3);have B2:=zV7 (Gr.step B1.out b2);have H1:=zV7 (World.alloc_heap_new w (.cells (amc m) 104));have H2:=zV7 ((b2.block w.heap.size (by rw[World.size_alloc];exact Nat.lt_succ_self _)).trans H1.out)
 have F0:=zV7 (show zAi (w.heap.size+1) 3 m.G.nons.length 0 (tgtV m.G q i) ((w.alloc (.cells (amc m) 104)).alloc (.cells (madeCells #[.int .i64 0] m.G.nons.length) 3))from by
  have h:=zAi.made (w.alloc (.cells (amc m) 104)) 3 (madeCells #[.int .i64 0] m.G.nons.length) (tgtV m.G q i)
  rwa [World.size_alloc,size_madeCells]at h)
 obtain⟨z0,z1,z2,z3,z4,z5⟩:=zAZ H1.out;unfold amc at z0 z1 z2 z3 z4 z5 B2 F0 H2;clear D hnS b2 H1 B1;unfold amc;go_enter Tryz.func64,Tryz.ntmps64;go_wp2_with fail;generalize hw2:(w.alloc (.cells #[.slice m.h.a1 m.G.terms.length m.h.c1,.slice m.h.a2 m.G.nons.length m.h.c2,.slice m.h.a3 m.G.rules.length m.h.c3,.int .i64 m.G.start,.slice m.aS m.nS m.cS,.slice m.aL m.nL m.cL] 104)).alloc (.cells (madeCells #[.int .i64 0] m.G.nons.length) 3)=w2 at*;clear hw2 z0 z1 z2 z3 z4 z5 hmk;go_loopw [14] (fun v wr=>∃k:Nat,v=.int .i64 (k:Int)/\k<=m.G.nons.length/\zAi (w.heap.size+1) 3 m.G.nons.length k (tgtV m.G q i) wr/\Fr (fun x=>x=w.heap.size+1) w2 wr) (fun v _=>m.G.nons.length-(intOf v).toNat)
 case atStart=>exact⟨0,rfl,Nat.zero_le _,F0.out,.refl _ _⟩
 case round=>
  obtain⟨k,rfl,hk,hF,hf⟩:=hrel;have FF:=zV7 hF;have BR:=zV7 (B2.out.trans (hf.below (m:=w.heap.size) (fun x hx=>by omega) B2.out.size));have hbx:=(hf.block w.heap.size (Array.getElem?_eq_some_iff.1 H2.out).1 (by omega)).trans H2.out;have FR:=zV7 hf;clear hF hf
  by_cases hlt:k<m.G.nons.length
  ·obtain⟨z0,z1,z2,z3,z4,z5⟩:=zAZ hbx;have hw1:IntKind.i64.wrap ((m.G.terms.length:Int)+1)=(m.G.terms.length:Int)+1:=by rw[IntKind.wrap_i64];omega
   have hsum:((m.G.terms.length:Int)+1+(k:Int))=((m.G.terms.length+1+k:Nat):Int):=by omega
   obtain⟨x,hx⟩:∃x,leads (q.2.getD i []) ((m.G.terms.length+1+k:Nat):Int)=x:=⟨_,rfl⟩
   have GK:=zV7 (show∀W1,Below w.heap.size w W1->Calls Tryz.prog 99 #[.slice m.aS m.nS m.cS,.int .i64 (i:Int),.int .i64 ((m.G.terms.length:Int)+1+(k:Int))] W1 (Gr.Is (.int .i64 x) W1)from fun W1 b=>by
    rw[hsum,←hx]
    exact GT.out W1 _ b)
   have hx':Value.int .i64 x=tgtV m.G q i k:=by unfold tgtV;rw[hx]
   have HX:=zV7 hx';clear hx hx';have hkn:(k:Int)<(m.G.nons.length:Int):=by omega
   clear hsum;obtain⟨u,hu⟩:=FF.out.some hlt;have hpw:w.heap.size+1<wr.heap.size:=FF.out.lt;go_wp2_with (go_at_call 99;refine(GK.out _ BR.out).mono ?_;rintro e w3 ⟨rfl,hb3⟩;have F3:=zV7 (FF.out.went hb3);have R3:=zV7 (FR.out.trans (.of_below hb3) (fun x hx=> .inl hx));have hu3:=cell_later hb3 hu;have f3:=FF.out.free k;have f4:=F3.out.free k;clear hb3);have F4:=zV7 (F3.out.put hlt HX.out);have R4:=zV7 (R3.out.setCell ⟨w.heap.size+1,k,none⟩ rfl (.int .i64 x));go_roundw
   case rel=>exact⟨k+1,by go_num,by omega,F4.out,R4.out⟩
   case measure=>first|(simp[intOf];omega)|omega
  ·obtain rfl:k=m.G.nons.length:=by omega
   go_wp2;go_ret;exact⟨w.heap.size+1,rfl,Nat.le_succ _,FF.out,BR.out⟩
theorem zG0:(Tryz.prog.info? 57).map (fun i=>(i.zero,i.size,i.bytes))=some (some (.agg #[.int .i64 0,.int .i64 0]),2,16):=by kernel_rfl
theorem zFQ(n:Nat)(hn:n<=10000)(w):
  (Instr.makeSlice 53 (.int .i64 ((n:Int)+1)) (.int .i64 ((n:Int)+1))).run Tryz.prog w=.ok (.slice (some ⟨w.heap.size,0,none⟩) (n+1) (n+1)) (w.alloc (.cells (madeCells #[.int .i64 0,.int .i64 0] ((n+1)*2)) 57)):=by
 obtain⟨i0,hi,hz0,hz1,hz2⟩:=info_parts zG0;have hr:=run_make (P:=Tryz.prog) w 53 57 i0 (.agg #[.int .i64 0,.int .i64 0]) Tryz.underlying53 hi hz0 .i64 .i64 ((n:Int)+1) ((n:Int)+1) (by omega) (Int.le_refl _) (by rw[hz2];omega) (by omega);rw[show((n:Int)+1).toNat=n+1 by omega]at hr;rw[hr,hz1]
 rfl
theorem zNc(k j)(hj:j<k*2):(madeCells #[.int .i64 0,.int .i64 0] (k*2))[j]?=some (.int .i64 0):=by
 unfold madeCells;rw[Array.getElem?_map,Array.getElem?_range,if_pos hj];simp only[Option.map_some]
 congr 1
 rcases Nat.mod_two_eq_zero_or_one j with h|h
 ·have:j % (#[Value.int .i64 0,Value.int .i64 0]:Array Value).size=0:=h;rw[this]
  rfl
 ·have:j % (#[Value.int .i64 0,Value.int .i64 0]:Array Value).size=1:=h;rw[this]
  rfl
noncomputable def rowV(G:Gram)(q:Whole)(i:Nat):Nat->Value:=fun j=>if j % 2=0 then .int .i64 (fstA G q i (j / 2)).1 else .int .i64 (fstA G q i (j / 2)).2
noncomputable def rowT(G:Gram)(q:Whole)(i c:Nat):Nat->Value:=fun j=>if j<c then rowV G q i j else .int .i64 0
theorem zAi.set{b sz}{T}{v}{w}(h:zAi b T sz sz v w){j}(hj:j<sz)(u):zAi b T sz sz (fun x=>if x=j then u else v x) (w.setCell ⟨b,j,none⟩ u):=by
 obtain⟨cur,h1,h2,h3⟩:=h;refine⟨_,Rg.zAR h1 _,by simp[h2],fun x hx=>?_⟩
 by_cases e:x=j
 ·subst e;rw[Array.getElem?_setIfInBounds_self_of_lt (by omega)];simp
 ·rw[Array.getElem?_setIfInBounds_ne (fun e2=>e e2.symm),h3 x hx];simp[e]
structure RoSt (G:Gram) (q:Whole) (i:Nat) (w w3:World) (t:Nat) (ds:List Deferred) (wr:World):Prop where
 row:zAi (w.heap.size+1) 57 ((G.terms.length+1)*2) ((G.terms.length+1)*2) (rowT G q i (t*2)) wr
 fr:Fr (fun x=>x=w.heap.size+1) w3 wr
 marks:∃L:List Nat,ds=L.map Rg.mark/\L.Nodup/\∀D∈L,w3.heap.size<=D/\wr.heap[D]?=some (.deferred (some []))
structure RW (m:Am) (i t:Nat) (wr w5:World):Prop where
 below:Below wr.heap.size wr w5
 size:w5.heap.size=wr.heap.size+4
 bt:w5.heap[wr.heap.size]?=some (.cells #[.int .i64 (t:Int)] 3 (0,0))
 p1:w5.heap[wr.heap.size+1]?=some (.cells (amc m) 104 (0,0))
 p2:w5.heap[wr.heap.size+1+1]?=some (.cells #[.int .i64 (i:Int)] 3 (0,0))
 p3:w5.heap[wr.heap.size+1+1+1]?=some (.cells #[.int .i64 (t:Int)] 3 (0,0))
theorem zOQ{m}{i t}{wr w5}(hw:w5=zHR m i t (wr.alloc (.cells #[.int .i64 (t:Int)] 3))):RW m i t wr w5:=by
 subst hw;have b0:=boxed wr (.cells #[.int .i64 (t:Int)] 3);have h0:=World.alloc_heap_new wr (.cells #[.int .i64 (t:Int)] 3);have hs0:(wr.alloc (.cells #[.int .i64 (t:Int)] 3)).heap.size=wr.heap.size+1:=World.size_alloc _ _;generalize wr.alloc (.cells #[.int .i64 (t:Int)] 3)=w0 at*;have b1:=boxed w0 (.cells (amc m) 104);have h1:=World.alloc_heap_new w0 (.cells (amc m) 104);have hs1:(w0.alloc (.cells (amc m) 104)).heap.size=wr.heap.size+2:=by rw[World.size_alloc,hs0]
 unfold zHR;generalize w0.alloc (.cells (amc m) 104)=wa at*;have b2:=boxed wa (.cells #[.int .i64 (i:Int)] 3);have h2:=World.alloc_heap_new wa (.cells #[.int .i64 (i:Int)] 3);have hs2:(wa.alloc (.cells #[.int .i64 (i:Int)] 3)).heap.size=wr.heap.size+3:=by rw[World.size_alloc,hs1]
 generalize wa.alloc (.cells #[.int .i64 (i:Int)] 3)=wb at*;have b3:=boxed wb (.cells #[.int .i64 (t:Int)] 3);have h3:=World.alloc_heap_new wb (.cells #[.int .i64 (t:Int)] 3);rw[hs0]at h1;rw[hs1]at h2;rw[hs2]at h3;exact⟨Gr.step b0 (Gr.step b1 (Gr.step b2 b3)),by rw[World.size_alloc,hs2],(b3.block _ (by omega)).trans ((b2.block _ (by omega)).trans ((b1.block _ (by omega)).trans h0)),(b3.block _ (by omega)).trans ((b2.block _ (by omega)).trans h1),(b3.block _ (by omega)).trans h2,h3⟩
def rI(G:Gram)(q:Whole)(i t br:Nat)(k:Nat)(S':Nat->Prop)(W:World):Prop:=S'=(fun x=>x=br)/\zAi br 57 ((G.terms.length+1)*2) ((G.terms.length+1)*2) (rowT G q i (t*2+if k=0 then 0 else 2)) W
theorem zQx(B)(G)(q)(i t br):Holds B (rI G q i t br):=by
 rintro k S' T A A' ⟨rfl,h1⟩ hi hf hT;exact⟨rfl,h1.kept (hf.block _ h1.lt fun h=>(hT _ h).2 rfl)⟩
theorem zKc(G)(q)(i t){x}(hx:fstA G q i t=x)(j):(if j=t*2+1 then(.int .i64 x.2:Value)else if j=t*2 then .int .i64 x.1 else rowT G q i (t*2) j)=rowT G q i (t*2+2) j:=by
 subst hx;unfold rowT rowV
 by_cases e1:j=t*2+1
 ·subst e1;rw[if_pos rfl,if_pos (show t*2+1<t*2+2 by omega),if_neg (show¬(t*2+1) % 2=0 by omega),show(t*2+1) / 2=t by omega]
 ·by_cases e2:j=t*2
  ·subst e2;rw[if_neg e1,if_pos rfl,if_pos (show t*2<t*2+2 by omega),if_pos (show t*2 % 2=0 by omega),show t*2 / 2=t by omega]
  ·rw[if_neg e1,if_neg e2]
   by_cases e3:j<t*2
   ·rw[if_pos e3,if_pos (show j<t*2+2 by omega)]
   ·rw[if_neg e3,if_neg (show¬j<t*2+2 by omega)]
theorem zOP(G)(q)(i t)(h:actL G q i t=[])(j):rowT G q i (t*2) j=rowT G q i ((t+1)*2) j:=by
 have e:fstA G q i t=(0,0):=by unfold fstA;rw[h];rfl
 have:=zKc G q i t e j;rw[show(t+1)*2=t*2+2 by omega,←this]
 by_cases e1:j=t*2+1
 ·rw[if_pos e1];unfold rowT;rw[if_neg (by omega)]
 ·rw[if_neg e1]
  by_cases e2:j=t*2
  ·rw[if_pos e2];unfold rowT;rw[if_neg (by omega)]
  ·rw[if_neg e2]
def zIj(G:Gram)(q:Whole)(i:Nat)(w:World)(e:Ending)(w':World):Prop:=∃b,e=.returned (.slice (some ⟨b,0,none⟩) (G.terms.length+1) (G.terms.length+1))/\w.heap.size<=b/\zAi b 57 ((G.terms.length+1)*2) ((G.terms.length+1)*2) (rowV G q i) w'/\Below w.heap.size w w'
theorem zTj(m:Am)(q:Whole)(w:World)(D:Dat m q w)(i:Nat)(hi:i<q.1.length)(hcl:∀t,t<m.G.terms.length+1->(actL m.G q i t).length<=1):
  Calls Tryz.prog 63 #[.agg (amc m),.int .i64 (i:Int)] w (zIj m.G q i w):=by
 have hsm:=Fi.zBG D.hv;have ht:=hsm.t;have hmk:=fun w=>zFQ m.G.terms.length (by omega) w
 have DD:=zV7 D;have H1:=zV7 (World.alloc_heap_new w (.cells (amc m) 104));have b1:=boxed w (.cells (amc m) 104);have b2:=boxed (w.alloc (.cells (amc m) 104)) (.cells (madeCells #[.int .i64 0,.int .i64 0] ((m.G.terms.length+1)*2)) 57);have b3:=boxed ((w.alloc (.cells (amc m) 104)).alloc (.cells (madeCells #[.int .i64 0,.int .i64 0] ((m.G.terms.length+1)*2)) 57)) (.cells #[.slice (some ⟨w.heap.size+1,0,none⟩) (m.G.terms.length+1) (m.G.terms.length+1)] 53);have B3:=zV7 (Gr.step (Gr.step b1 b2) b3);have H3:=zV7 ((b3.block w.heap.size (by simp;omega)).trans ((b2.block w.heap.size (by rw[World.size_alloc];exact Nat.lt_succ_self _)).trans H1.out));have G3:=zV7 (World.alloc_heap_new ((w.alloc (.cells (amc m) 104)).alloc (.cells (madeCells #[.int .i64 0,.int .i64 0] ((m.G.terms.length+1)*2)) 57)) (.cells #[.slice (some ⟨w.heap.size+1,0,none⟩) (m.G.terms.length+1) (m.G.terms.length+1)] 53));rw[World.size_alloc,World.size_alloc]at G3
 have F3:=zV7 (show zAi (w.heap.size+1) 57 ((m.G.terms.length+1)*2) ((m.G.terms.length+1)*2) (rowT m.G q i (0*2)) (((w.alloc (.cells (amc m) 104)).alloc (.cells (madeCells #[.int .i64 0,.int .i64 0] ((m.G.terms.length+1)*2)) 57)).alloc (.cells #[.slice (some ⟨w.heap.size+1,0,none⟩) (m.G.terms.length+1) (m.G.terms.length+1)] 53))from by
  have h:=World.alloc_heap_new (w.alloc (.cells (amc m) 104)) (.cells (madeCells #[.int .i64 0,.int .i64 0] ((m.G.terms.length+1)*2)) 57);rw[World.size_alloc]at h;refine⟨_,(b3.block _ (by simp)).trans h,size_madeCells _ _,fun j hj=>?_⟩;rw[zNc _ j hj];unfold rowT
  rw[if_neg (by omega)])
 obtain⟨z0,z1,z2,z3,z4,z5⟩:=zAZ H1.out;unfold amc at z0 z1 z2 z3 z4 z5 B3 F3 H3 G3;clear D H1 b1 b2 b3;unfold amc;refine(callsIn_wide (n:=9)).1 ?_;refine callsIn_of_wp_marks Tryz.func63 rfl trivial ?_ rfl;refine wpIn_wide.2 ?_;simp only[Tryz.ntmps63,List.size_toArray,List.length_cons,List.length_nil,Nat.reduceAdd,Nat.reduceSub,Array.replicate_succ,Array.replicate_zero,List.push_toArray,List.append_toArray,List.nil_append,List.cons_append];have hw1:IntKind.i64.wrap ((m.G.terms.length:Int)+1)=(m.G.terms.length:Int)+1:=by rw[IntKind.wrap_i64];omega
 go_wp2_with fail;generalize hw3:((w.alloc (.cells #[.slice m.h.a1 m.G.terms.length m.h.c1,.slice m.h.a2 m.G.nons.length m.h.c2,.slice m.h.a3 m.G.rules.length m.h.c3,.int .i64 m.G.start,.slice m.aS m.nS m.cS,.slice m.aL m.nL m.cL] 104)).alloc (.cells (madeCells #[.int .i64 0,.int .i64 0] ((m.G.terms.length+1)*2)) 57)).alloc (.cells #[.slice (some ⟨w.heap.size+1,0,none⟩) (m.G.terms.length+1) (m.G.terms.length+1)] 53)=w3 at*;clear hw3 z0 z1 z2 z3 z4 z5 hmk;refine wpIn_wide.1 (wpIn_loop (n:=9) (fun a' wx=>∃(u6 u7 u16 u17 u18 u19 u20 u21 u22 u23 u24 u25 u26 u27 u28 u29:Value) (ds:List Deferred),(∃t:Nat,u16=.int .i64 (t:Int)/\t<=m.G.terms.length+1/\RoSt m.G q i w w3 t ds wx)/\a'={tmps:=List.toArray (.agg #[.slice m.h.a1 m.G.terms.length m.h.c1,.slice m.h.a2 m.G.nons.length m.h.c2,.slice m.h.a3 m.G.rules.length m.h.c3,.int .i64 m.G.start,.slice m.aS m.nS m.cS,.slice m.aL m.nL m.cL]::.int .i64 (i:Int)::.pointer (some ⟨w.heap.size,0,none⟩)::undef::.slice none 0 0::.pointer (some ⟨w.heap.size+1+1,0,none⟩)::u6::u7::.pointer (some ⟨w.heap.size,0,none⟩)::.pointer (some ⟨w.heap.size,0,none⟩)::.slice m.h.a1 m.G.terms.length m.h.c1::.int .i64 (m.G.terms.length:Int)::.int .i64 ((m.G.terms.length:Int)+1)::.slice (some ⟨w.heap.size+1,0,none⟩) (m.G.terms.length+1) (m.G.terms.length+1)::.slice (some ⟨w.heap.size+1,0,none⟩) (m.G.terms.length+1) (m.G.terms.length+1)::.int .i64 ((m.G.terms.length:Int)+1)::u16::u17::u18::u19::u20::u21::u22::u23::u24::u25::u26::u27::u28::u29::[]),defers:=ds}) (fun a' _=>m.G.terms.length+1-(intOf (a'.tmps.getD 16 undef)).toNat) ?_ ?_)
 case refine_1=>
  (repeat apply Exists.intro)
  refine⟨?_,rfl⟩;exact⟨0,rfl,Nat.zero_le _,F3.out,.refl _ _,[],rfl,List.nodup_nil,fun _ h=>by cases h⟩
 case refine_2=>
  rintro a' wr ⟨u6,u7,u16,u17,u18,u19,u20,u21,u22,u23,u24,u25,u26,u27,u28,u29,ds,⟨t,rfl,htl,st⟩,rfl⟩;have ST:=zV7 st;have hbr:=st.row.lt;have hs3:=st.fr.size;have B3R:=zV7 (B3.out.trans (st.fr.below (m:=w.heap.size) (fun x hx=>by omega) B3.out.size));have HA:=zV7 ((st.fr.block w.heap.size (Array.getElem?_eq_some_iff.1 H3.out).1 (by omega)).trans H3.out);have HG:=zV7 ((st.fr.block (w.heap.size+1+1) (Array.getElem?_eq_some_iff.1 G3.out).1 (by omega)).trans G3.out);have hg3:=(Array.getElem?_eq_some_iff.1 G3.out).1;have hg3':w.heap.size+1+1<wr.heap.size:=Nat.lt_of_lt_of_le hg3 hs3;clear st
  by_cases hlt:t<m.G.terms.length+1
  ·have b0:=boxed wr (.cells #[.int .i64 (t:Int)] 3);obtain⟨z0,z1,z2,z3,z4,z5⟩:=zAZ ((b0.block w.heap.size (by omega)).trans HA.out);have PA:=zV7 (show∀w1,Calls Tryz.prog 97 #[.agg #[.slice m.h.a1 m.G.terms.length m.h.c1,.slice m.h.a2 m.G.nons.length m.h.c2,.slice m.h.a3 m.G.rules.length m.h.c3,.int .i64 m.G.start,.slice m.aS m.nS m.cS,.slice m.aL m.nL m.cL],.int .i64 (i:Int),.int .i64 (t:Int)] w1 _ from fun w1=>zKY m i t w1);clear b0
   gi_wp2_with (refine⟨trivial,?_⟩;gi_at_call 97;refine(zBU (PA.out _)).mono ?_;rintro e w5 ⟨rfl,hw5⟩;have HW5:=zV7 hw5;clear hw5)
   clear z0 z1 z2 z3 z4 z5 PA;have X5:=zV7 (zOQ HW5.out);clear HW5;have hs5:=X5.out.size;have B5:=zV7 (Gr.step B3R.out X5.out.below);have hqy:=zFb m q w w5 DD.out B5.out i t _ _ _ hi X5.out.p1 X5.out.p2 X5.out.p3
   have hOi:Inn (zCX w (wr.heap.size+1) (wr.heap.size+1+1) (wr.heap.size+1+1+1)) w5:=by
    have:=B5.out.size;rintro x (h|h|h|h)
    all_goals omega
   have hOf:Off (fun x=>x=w.heap.size+1) (zCX w (wr.heap.size+1) (wr.heap.size+1+1) (wr.heap.size+1+1+1)):=by
    rintro x rfl (h|h|h|h)
    all_goals omega
   have hN:=hcl t hlt;have hr0:rI m.G q i t (w.heap.size+1) 0 (fun x=>x=w.heap.size+1) w5:=⟨rfl,by simpa using ST.out.row.went X5.out.below⟩
   refine zFg (n:=9) (gf:=120) (lb:=#[.pointer (some ⟨wr.heap.size+1,0,none⟩),.pointer (some ⟨wr.heap.size+1+1,0,none⟩),.pointer (some ⟨wr.heap.size+1+1+1,0,none⟩)]) rfl (enters_of Tryz.func120 (by kernel_rfl) rfl)
    (encs:=encP m q i t) hqy (fun _=>rfl) (rI m.G q i t (w.heap.size+1)) (fun _ _ _ _=>False) (zQx _ _ _ _ _ _) (fun _ _ _ _ _ _ h _ _ _=>h) (fun x=>x=w.heap.size+1) (fun _=>False) hOf hOi (by rintro x rfl;omega) (fun _ h=>h.elim) hr0 ?round ?done ?stop
   case stop=>
    rintro c k S' W hk h;exact h.elim
   case round=>
    rintro l k S' W hk hl hl2 hnl ⟨rfl,h1⟩ hin he hf;obtain rfl:k=0:=by omega
    obtain⟨x,hx⟩:∃x,fstA m.G q i t=x:=⟨_,rfl⟩
    have hx':(actL m.G q i t).getD 0 (0,0)=x:=by
     rw[←hx];unfold fstA;rw[List.getD_eq_getElem?_getD,List.headD_eq_head?_getD,List.head?_eq_getElem?]
    have hll:w.heap.size+1≠l:=fun e=>hnl e.symm
    have hsW:=hf.size
    have KP:=zV7 (show∀w2,Fr (fun x=>x=l) (W.alloc (.cells #[.int .i64 x.1,.int .i64 x.2] 57)) w2->zAi (w.heap.size+1) 57 ((m.G.terms.length+1)*2) ((m.G.terms.length+1)*2) (rowT m.G q i (t*2)) w2/\
      w2.heap[w.heap.size+1+1]?=some (.cells #[.slice (some ⟨w.heap.size+1,0,none⟩) (m.G.terms.length+1) (m.G.terms.length+1)] 53 (0,0))/\w2.heap[wr.heap.size]?=some (.cells #[.int .i64 (t:Int)] 3 (0,0))/\w2.heap[W.heap.size]?=some (.cells #[.int .i64 x.1,.int .i64 x.2] 57 (0,0))from fun w2 h2=>by
     have bA:=boxed W (.cells #[.int .i64 x.1,.int .i64 x.2] 57);have hk2:∀{b:Nat} {o:Obj},b<w5.heap.size->b≠w.heap.size+1->w5.heap[b]?=some o->w2.heap[b]?=some o:=fun {b o} hb hne ho=>zAW h2 ((bA.block b (by omega)).trans ((hf.block b hb hne).trans ho)) (by omega)
     refine⟨?_,hk2 (by omega) (by omega) ((X5.out.below.block _ hg3').trans HG.out),hk2 (by omega) (by omega) X5.out.bt,zAW h2 (World.alloc_heap_new _ _) (by omega)⟩;have h3:=(h1.went bA).kept (h2.block _ (h1.went bA).lt (by omega))
     simpa using h3)
    have BF:=zV7 h1.lt;unfold encP acv;rw[hx'];clear h1 hx' hin he hf
    gi_wp2
    refine⟨(Fr.refl _ W).alloc _,fun w2 hw2 hs2=>?_⟩;obtain⟨k1,k2,k3,k4⟩:=KP.out w2 hw2;have c0:=zAA k2 (k:=0) (by simp);have c1:=zAA k3 (k:=0) (by simp);have c2:=zAA k4 (k:=0) (by simp);have c3:=zAA k4 (k:=1) (by simp);obtain⟨y0,e0⟩:=k1.some (j:=t*2) (by omega);obtain⟨y1,e1⟩:=k1.some (j:=t*2+1) (by omega);have f0:=k1.free (t*2);have f1:=k1.free (t*2+1);have hti:(t:Int)<(m.G.terms.length:Int)+1:=by omega
    have hbl:=k1.lt;have F2:=zV7 (((k1.set (j:=t*2) (by omega) (.int .i64 x.1)).set (j:=t*2+1) (by omega) (.int .i64 x.2)).congr fun j _=>zKc m.G q i t hx j);have R2:=zV7 ((((Fr.refl (fun y=>y=w.heap.size+1\/W.heap.size<=y) w2).setCell ⟨w.heap.size+1,t*2,none⟩ (.inl rfl) (.int .i64 x.1)).setCell ⟨w.heap.size+1,t*2+1,none⟩ (.inl rfl) (.int .i64 x.2)));clear k1 k2 k3 k4 KP hw2 hs2
    gi_wp2
    refine⟨fun y=>y=w.heap.size+1,.refl _ _,R2.out,?_,rfl,?_⟩
    ·rintro y rfl;exact Nat.lt_of_lt_of_le hbl R2.out.size
    ·exact F2.out
   case done=>
    rintro S' W ⟨rfl,h1⟩ hin he hf hD hnD;have hsW:=hf.size
    have NX:=zV7 (show RoSt m.G q i w w3 (t+1) (Rg.mark w5.heap.size::ds) W from by
     refine⟨?_,(ST.out.fr.trans (.of_below X5.out.below) (fun x hx=> .inl hx)).trans hf fun x hx=> .inl hx,?_⟩
     ·rcases hA:actL m.G q i t with _|⟨y,l⟩
      ·rw[hA]at h1
       exact h1.congr fun j _=>by
        have:=zOP m.G q i t hA j
        simpa using this
      ·rw[hA]at h1 hN;have hl0:l.length=0:=by simpa using hN
       have h2:(t+1)*2=t*2+(if(y::l).length=0 then 0 else 2):=by
        rw[List.length_cons,if_neg (by omega)];omega
       rw[h2];exact h1
     ·obtain⟨L,rfl,hnd,hL⟩:=ST.out.marks
      refine⟨w5.heap.size::L,rfl,List.nodup_cons.2 ⟨fun hm=>by
       have:=(Array.getElem?_eq_some_iff.1 (hL _ hm).2).1
       omega,hnd⟩,fun D hD'=>?_⟩
      rcases List.mem_cons.1 hD' with rfl|hD'
      ·exact⟨by omega,hD⟩
      ·have hlt2:=(Array.getElem?_eq_some_iff.1 (hL D hD').2).1;have:=(hL D hD').1
       exact⟨(hL D hD').1,(hf.block D (by omega) (by omega)).trans ((X5.out.below.block D hlt2).trans (hL D hD').2)⟩)
    clear h1 hin he hf hD hnD hqy hOi hOf hr0
    gi_wp2
    refine⟨?_,?_⟩
    case refine_1=>
     (repeat apply Exists.intro)
     refine⟨?_,rfl⟩;exact⟨t+1,by simp,by omega,NX.out⟩
    case refine_2=>
     simp[intOf];omega
  ·obtain rfl:t=m.G.terms.length+1:=by omega
   have c0:=zAA HG.out (k:=0) (by simp);obtain⟨L,rfl,hnd,hL⟩:=ST.out.marks
   have EN:=zV7 (show∀w',Fr (fun x=>x∈L) wr w'->zIj m.G q i w (.returned (.slice (some ⟨w.heap.size+1,0,none⟩) (m.G.terms.length+1) (m.G.terms.length+1))) w' from fun w' hf=>by
    refine⟨_,rfl,Nat.le_succ _,(ST.out.row.kept (hf.block _ hbr fun hx=>by have:=(hL _ hx).1;omega)).congr fun j hj=>?_,B3R.out.trans (hf.below (fun x hx=>by have:=(hL _ hx).1;omega) B3R.out.size)⟩;unfold rowT
    rw[if_pos (by omega)])
   have LM:=zV7 (show∀(fn:Func) (tmps:Array Value) (R:Ending->World->Prop),(∀w',Fr (fun x=>x∈L) wr w'->∃v,(results fn tmps).run Tryz.prog w'=.ok v w'/\R (.returned v) w')->LeavesInM Fence.wide 9 Tryz.prog fn tmps R (L.map Rg.mark) .returning wr from fun fn tmps R hR=>zBQ L wr hnd (fun D h=>(hL D h).2) hR);clear hL hnd
   gi_wp2
   go_wp2;refine LM.out _ _ _ ?_;intro w' hf;refine⟨_,results_tmp rfl _ _ _,?_⟩;exact EN.out w' hf
end Ac
namespace Ac
open Gr (Gram GAt gv boxed zAF ivs)
open Rw (zAN)
open Au
open Go.Proofs.YtegeamggbglneaaGreatDoor.Sep
theorem zLM:(Tryz.prog.info? 55).map (fun i=>(i.zero,i.size,i.bytes))=some (some (.agg #[.int .i64 0,.slice none 0 0]),2,32):=by kernel_rfl
def ruc(G:Gram)(A:Nat->Option Addr)(C:Nat->Nat)(j:Nat):List Value:=[.int .i64 (zAF G (j:Int)).1,.slice (A j) (zAF G (j:Int)).2.length (C j)]
theorem zQ7{w:World}{base size n}{e}{v}{xs}(h:w.ownsRow base e size v n xs){b}{cs}{T}{fz}(hb:w.heap[b]?=some (.cells cs T fz))(hT:T≠e):v.ownBlock≠some b:=fun eo=>by
 rcases h.2 with⟨h0,_⟩|⟨g,cap,cur,h0,_,h1,_⟩
 ·rw[h0]at eo;cases eo
 ·rw[h0]at eo;injection eo with eo
  dsimp only at eo;subst eo;rw[h1]at hb;injection hb with hb
  injection hb with _ hb _
  exact hT hb.symm
structure RuI (G:Gram) (w:World) (k:Nat) (A:Nat->Option Addr) (C:Nat->Nat) (v:Value) (wr:World):Prop where
 row:wr.ownsRow w.heap.size 55 2 v k ((List.range k).flatMap (ruc G A C))
 els:∀j,j<k->Reads (A j) (ivs (zAF G (j:Int)).2) wr/\∀b o,A j=some ⟨b,o,none⟩->0<(zAF G (j:Int)).2.length->(v.ownBlock≠some b/\b<wr.heap.size)/\w.heap.size<=b
 below:Below w.heap.size w wr
theorem RuI.next{G}{w wr wa wb}{k}{A}{C}{v v'}(r:RuI G w k A C v wr)(hb:Below wr.heap.size wr wa){a}{c}(hR:Reads a (ivs (zAF G (k:Int)).2) wa)
  (hnew:Gr.New a wr) (hown:wb.ownsRow w.heap.size 55 2 v' (k+1) ((List.range k).flatMap (ruc G A C)++[.int .i64 (zAF G (k:Int)).1,.slice a (zAF G (k:Int)).2.length c])) (hg:wa.grownBy wb v.ownBlock) (hloc:v'.ownBlock=v.ownBlock\/v'.ownBlock=some wa.heap.size):
  RuI G w (k+1) (fun j=>if j=k then a else A j) (fun j=>if j=k then c else C j) v' wb:=by
 have hv:∀x,v.ownBlock=some x->x<wr.heap.size:=fun x e=>(World.ownsRow.lt r.row x e).2
 refine⟨?_,fun j hj=>?_,(r.below.trans (hb.mono r.below.size)).grown hg (Nat.le_trans r.below.size hb.size) fun x e=>(World.ownsRow.lt r.row x e).1⟩
 ·have e:(List.range (k+1)).flatMap (ruc G (fun j=>if j=k then a else A j) (fun j=>if j=k then c else C j))=(List.range k).flatMap (ruc G A C)++[.int .i64 (zAF G (k:Int)).1,.slice a (zAF G (k:Int)).2.length c]:=by
   rw[List.range_succ,List.flatMap_append]
   congr 1
   ·rw[List.flatMap_def,List.flatMap_def]
    congr 1
    refine List.map_congr_left fun j hj=>?_
    have:=List.mem_range.1 hj;have hne:¬j=k:=by omega
    simp[ruc,hne]
   ·simp[ruc]
  rw[e];exact hown
 ·have hkeep:∀(a1:Option Addr) (l:List Int),Reads a1 (ivs l) wa->(∀b o,a1=some ⟨b,o,none⟩->0<l.length->(v.ownBlock≠some b/\b<wa.heap.size)/\w.heap.size<=b)->Reads a1 (ivs l) wb/\∀b o,a1=some ⟨b,o,none⟩->0<l.length->(v'.ownBlock≠some b/\b<wb.heap.size)/\w.heap.size<=b:=fun a1 l h1 h2=>by
   rcases l with _|⟨x,l⟩
   ·exact⟨Reads.nil _ _,fun b o e hl=>absurd hl (Nat.lt_irrefl 0)⟩
   ·have h2:=fun b o e=>h2 b o e (by simp)
    refine⟨h1.keep fun b o e=>hg.block b (h2 b o e).1.2 fun e2=>(h2 b o e).1.1 e2.symm,fun b o e _=>⟨⟨fun e2=>?_,Nat.lt_of_lt_of_le (h2 b o e).1.2 hg.size⟩,(h2 b o e).2⟩⟩;rcases hloc with h|h
    ·exact(h2 b o e).1.1 (by rw[←h];exact e2)
    ·rw[h]at e2;injection e2 with e2
     have:=(h2 b o e).1.2;omega
  by_cases e:j=k
  ·subst e;simp only[if_true];refine hkeep a _ hR fun b o e hl=>⟨⟨fun e2=>?_,?_⟩,?_⟩
   ·have:=hv b e2;have:=hnew _ e;dsimp only at this;omega
   ·obtain⟨b',o',e3,e4⟩:=hR 0 (by simpa[ivs]using hl);rw[e]at e3;simp only[Option.some.injEq,Addr.mk.injEq,and_true]at e3;obtain⟨rfl,rfl⟩:=e3;exact World.block_lt_of_cell? wa _ e4
   ·have:=hnew _ e;have:=r.below.size;dsimp only at*;omega
  ·simp only[if_neg e];obtain⟨h1,h2⟩:=r.els j (by omega);exact hkeep (A j) _ (h1.below hb (Nat.le_refl _)) fun b o e hl=>⟨⟨(h2 b o e hl).1.1,Nat.lt_of_lt_of_le (h2 b o e hl).1.2 hb.size⟩,(h2 b o e hl).2⟩
def RuR(lo:Nat)(G:Gram)(a:Option Addr)(w:World):Prop:=∀j,j<G.rules.length+1->∃b a3 c3,a=some ⟨b,0,none⟩/\w.cell? ⟨b,j*2,none⟩=some (.int .i64 (zAF G (j:Int)).1)/\w.cell? ⟨b,j*2+1,none⟩=some (.slice a3 (zAF G (j:Int)).2.length c3)/\Reads a3 (ivs (zAF G (j:Int)).2) w/\lo<=b/\∀b3 o,a3=some ⟨b3,o,none⟩->0<(zAF G (j:Int)).2.length->lo<=b3
theorem RuR.frs{lo}{G}{a}{w w'}{S}(h:RuR lo G a w)(hf:Fr S w w')(hS:∀x,S x->x<lo):RuR lo G a w':=fun j hj=>by
 obtain⟨b,a3,c3,e,h1,h2,h3,h4,h5⟩:=h j hj;refine⟨b,a3,c3,e,hf.cell h1 (fun hs=>by have:=hS _ hs;dsimp only at this;omega),hf.cell h2 (fun hs=>by have:=hS _ hs;dsimp only at this;omega),fun i hi=>?_,h4,h5⟩;obtain⟨b3,o3,e3,e4⟩:=h3 i hi;exact⟨b3,o3,e3,hf.cell e4 (fun hs=>by have:=hS _ hs;have:=h5 b3 o3 e3 (by simp only[ivs,List.length_map]at hi;omega);dsimp only at*;omega)⟩
theorem zRw(G)(A)(C)(k j i)(hj:j<k)(hi:i<2):((List.range k).flatMap (ruc G A C))[j*2+i]?=(ruc G A C j)[i]?:=by
 have h:=Rw.zBT (ruc G A C) (fun _=>rfl) (List.range k) j (by simpa using hj) i hi;rw[h];simp
theorem RuI.reads{G}{w wr}{A}{C}{a}{n c}(r:RuI G w (G.rules.length+1) A C (.slice a n c) wr):RuR w.heap.size G a wr:=fun j hj=>by
 have hn:n=G.rules.length+1:=by
  obtain⟨_,_,e⟩:=Rw.zAG r.row;simp only[Value.slice.injEq]at e;exact e.2.1
 subst hn;obtain⟨b,rfl⟩:=Lk.zBW r.row (by omega);have rd:=World.ownsRow.cells r.row (g:=b) rfl;have t0:=rd (j*2+0) _ (by rw[zRw _ _ _ _ _ 0 hj (by omega)];rfl);have t1:=rd (j*2+1) _ (by rw[zRw _ _ _ _ _ 1 hj (by omega)];rfl);rw[WideShapes.add_plain]at t0 t1;exact⟨b,A j,C j,rfl,by simpa using t0,by simpa using t1,(r.els j hj).1,(World.ownsRow.lt r.row b rfl).1,fun b3 o e hl=>((r.els j hj).2 b3 o e hl).2⟩
theorem zQ5{w:World}{base n c size}{e}{a}{xs}(h:w.ownsRow base e size (.slice a n c) n xs):n<=c:=by
 rcases h.2 with⟨h1,h2⟩|⟨g,cap,cur,h1,_,_,h3,_⟩
 ·simp only[Value.slice.injEq]at h1;omega
 ·simp only[Value.slice.injEq]at h1;omega
def zHU(G:Gram)(w:World)(e:Ending)(w':World):Prop:=∃a c,e=.returned (.slice a (G.rules.length+1) c)/\RuR w.heap.size G a w'/\Below w.heap.size w w'/\G.rules.length+1<=c
theorem zOU(m:Am)(w:World)(kG:GAt m.h m.G w)(hl:m.G.rules.length<=300):
  Calls Tryz.prog 62 #[.agg (amc m)] w (zHU m.G w):=by
 obtain⟨i0,hj,hz0,hz1,hz2⟩:=info_parts zLM;have RN:=zV7 (show∀(w1:World) (i:Nat),Below w.heap.size w w1->Calls Tryz.prog 98 #[gv m.h m.G,.int .i64 (i:Int)] w1 _ from fun w1 i b=>Go.Proofs.YtegeamggbglneaaGreatDoor.Gr.zKf m.h m.G (i:Int) w1 (kG.went b));have B1:=zV7 (boxed w (.cells (amc m) 104));have H1:=zV7 (World.alloc_heap_new w (.cells (amc m) 104));have R0:=zV7 (show RuI m.G w 0 (fun _=>none) (fun _=>0) (.slice none 0 0) (w.alloc (.cells (amc m) 104))from⟨World.ownsRow_nil _ _ _ _,fun j hj=>absurd hj (Nat.not_lt_zero j),boxed _ _⟩);obtain⟨z0,z1,z2,z3,z4,z5⟩:=zAZ H1.out;have hw1:IntKind.i64.wrap ((m.G.rules.length:Int)+1)=(m.G.rules.length:Int)+1:=by rw[IntKind.wrap_i64];omega
 unfold gv at RN;unfold amc at z0 z1 z2 z3 z4 z5 B1 R0 H1;clear kG;unfold amc;go_enter Tryz.func62,Tryz.ntmps62;go_wp2_with fail;generalize hw2:w.alloc (.cells #[.slice m.h.a1 m.G.terms.length m.h.c1,.slice m.h.a2 m.G.nons.length m.h.c2,.slice m.h.a3 m.G.rules.length m.h.c3,.int .i64 m.G.start,.slice m.aS m.nS m.cS,.slice m.aL m.nL m.cL] 104)=w2 at*;clear hw2 z0 z1 z2 z3 z4 z5;go_loopw [3,12] (fun v t wr=>∃(k:Nat) (A:Nat->Option Addr) (C:Nat->Nat),t=.int .i64 (k:Int)/\k<=m.G.rules.length+1/\RuI m.G w k A C v wr/\wr.heap[w.heap.size]?=w2.heap[w.heap.size]?) (fun _ t _=>m.G.rules.length+1-(intOf t).toNat)
 case atStart=>exact⟨0,_,_,rfl,Nat.zero_le _,R0.out,rfl⟩
 case round=>
  obtain⟨k,A,C,rfl,hk,hR,hbx⟩:=hrel;have R:=zV7 hR;have HB:=zV7 (hbx.trans H1.out);obtain⟨av,cv,rfl⟩:=Rw.zAG hR.row;clear hR hbx
  by_cases hlt:k<m.G.rules.length+1
  ·obtain⟨z0,z1,z2,z3,z4,z5⟩:=zAZ (m:=m) HB.out;have hpw:w.heap.size<wr.heap.size:=(Array.getElem?_eq_some_iff.1 HB.out).1;have RK:=zV7 (RN.out wr k R.out.below);have hsw:=R.out.below.size;generalize hrr:zAF m.G (k:Int)=rr at*
   go_wp2_with (first
    |(go_at_call 98;refine RK.out.mono ?_;rintro e wa ⟨a3,c3,rfl,hR3,hb3,hn3,_⟩;have B3:=zV7 hb3;have Q3:=zV7 hR3;have N3:=zV7 hn3;have b4:=boxed wa (.cells #[.int .i64 rr.1,.slice a3 rr.2.length c3] 55);have b5:=Gr.step b4 (boxed (wa.alloc (.cells #[.int .i64 rr.1,.slice a3 rr.2.length c3] 55)) (.cells #[.int .i64 rr.1,.slice a3 rr.2.length c3] 55));have B5:=zV7 (Gr.step hb3 b5);have R1:=zV7 (zAE R.out.row fun g hg=>B5.out.block g (World.ownsRow.lt R.out.row g hg).2);have hs4:w.heap.size<=(wa.alloc (.cells #[.int .i64 rr.1,.slice a3 rr.2.length c3] 55)).heap.size:=Nat.le_trans hsw (Nat.le_trans hb3.size b4.size);have ON:=zV7 (show((wa.alloc (.cells #[.int .i64 rr.1,.slice a3 rr.2.length c3] 55)).alloc (.cells #[.int .i64 rr.1,.slice a3 rr.2.length c3] 55)).ownsRow w.heap.size 55 2 (.slice (some ⟨(wa.alloc (.cells #[.int .i64 rr.1,.slice a3 rr.2.length c3] 55)).heap.size,0,none⟩) 1 1) 1 [.int .i64 rr.1,.slice a3 rr.2.length c3]from World.ownsRow_lit (wa.alloc (.cells #[.int .i64 rr.1,.slice a3 rr.2.length c3] 55)) #[.int .i64 rr.1,.slice a3 rr.2.length c3] 1 hs4 (by decide) (by simp));have hs5:w.heap.size<=((wa.alloc (.cells #[.int .i64 rr.1,.slice a3 rr.2.length c3] 55)).alloc (.cells #[.int .i64 rr.1,.slice a3 rr.2.length c3] 55)).heap.size:=Nat.le_trans hsw B5.out.size;rw[World.size_alloc]at ON;clear hR3 hb3 hn3 b4 b5 z0 z1 z2 z3 z4 z5)
    | (at_builtin;refine zAN _ rfl _ _ 22 rfl w.heap.size 55 i0 (.agg #[.int .i64 0,.slice none 0 0]) 2 32 Tryz.underlying22 hj hz0 hz1 hz2 rfl (by decide) (.slice av k cv) k ((List.range k).flatMap (ruc m.G A C)) rfl R1.out w.heap.size _ 1 [.int .i64 rr.1,.slice a3 rr.2.length c3] rfl ON.out (by intro u hu;simp only[List.mem_cons,List.not_mem_nil,or_false]at hu;rcases hu with rfl|rfl<;>rfl) (by unfold maxLen;omega) (by omega) hs5 ?_;intro v' wb hown hg hloc;have O9:=zV7 hown;have G9:=zV7 hg;have L9:=zV7 hloc;clear hown hg hloc))
   subst hrr;have NX:=zV7 (R.out.next B5.out (Q3.out.below (Gr.step (boxed _ _) (boxed _ _)) (Nat.le_refl _)) N3.out O9.out G9.out L9.out);go_roundw
   case rel=>exact⟨k+1,_,_,by go_num,by omega,NX.out,(G9.out.block _ (Nat.lt_of_lt_of_le hpw B5.out.size) fun e=>zQ7 R.out.row HB.out (by decide) e.symm).trans ((B5.out.block _ hpw).trans (HB.out.trans H1.out.symm))⟩
   case measure=>first|(simp[intOf];omega)|omega
  ·obtain rfl:k=m.G.rules.length+1:=by omega
   go_wp2;go_ret;exact⟨av,cv,rfl,R.out.reads,R.out.below,zQ5 R.out.row⟩
end Ac
namespace Ac
open Gr (Gram checkN)
open Au
open Go.Proofs.YtegeamggbglneaaGreatDoor.Sep
structure ARow (E F:TypeId) (n sz:Nat) (f:Nat->Nat->Value) (lo k:Nat) (B:Nat->Nat) (v:Value) (w:World):Prop where
 row:w.ownsRow lo E 1 v k ((List.range k).map fun j=> .slice (some ⟨B j,0,none⟩) n n)
 els:∀j,j<k->zAi (B j) F sz sz (f j) w/\lo<=B j
section
variable {E F U:TypeId} {n sz lo k:Nat} {f:Nat->Nat->Value} {B:Nat->Nat} {v:Value} {w w' wa wb:World}
theorem ARow.nil(w):ARow E F n sz f lo 0 B (.slice none 0 0) w:=⟨World.ownsRow_nil _ _ _ _,fun j hj=>absurd hj (Nat.not_lt_zero j)⟩
theorem ARow.went(r:ARow E F n sz f lo k B v w)(hb:Below w.heap.size w w'):ARow E F n sz f lo k B v w':=
 ⟨zAE r.row fun g e=>hb.block g (World.ownsRow.lt r.row g e).2,fun j hj=>⟨(r.els j hj).1.went hb,(r.els j hj).2⟩⟩
theorem zAi.ty{b sz n}{T}{v}{w}(h:zAi b T sz n v w):Ty b T w:=by
 obtain⟨cur,h1,_⟩:=h;exact⟨cur,_,h1⟩
theorem zDy{w}{base size n}{e}{v}{xs}(h:w.ownsRow base e size v n xs){g}(hg:v.ownBlock=some g):Ty g e w:=by
 rcases h.2 with⟨h0,_⟩|⟨g',cap,cur,h0,_,h1,_⟩
 ·rw[h0]at hg;cases hg
 ·rw[h0]at hg;injection hg with hg
  dsimp only at hg;subst hg;exact⟨cur,_,h1⟩
theorem ARow.kept(r:ARow E F n sz f lo k B v w){x}(hx:Ty x U w)(hE:E≠U)(hF:F≠U)(hg:w.grownBy w' (some x)):ARow E F n sz f lo k B v w':=
 ⟨zAE r.row fun g e=>(zDy r.row e).kept hx hE hg,fun j hj=>⟨(r.els j hj).1.kept ((r.els j hj).1.ty.kept hx hF hg),(r.els j hj).2⟩⟩
theorem ARow.kept'(r:ARow E F n sz f lo k B v w){u}{base m}{xs}{s}(hu:w.ownsRow base U s u m xs)(hE:E≠U)(hF:F≠U)(hg:w.grownBy w' u.ownBlock):ARow E F n sz f lo k B v w':=by
 cases ho:u.ownBlock with
 |none=>
  rw[ho]at hg;exact r.went ⟨hg.os,hg.tape,hg.output,hg.size,fun x hx=>hg.block x hx (by simp)⟩
 |some g=>
  rw[ho]at hg;exact r.kept (zDy hu ho) hE hF hg
theorem ARow.snoc(r:ARow E F n sz f lo k B v w){b}(hF:zAi b F sz sz (f k) w)(hlo:lo<=b)(hEF:F≠E){v'}(hown:w'.ownsRow lo E 1 v' (k+1) ((List.range k).map (fun j=>(.slice (some ⟨B j,0,none⟩) n n:Value))++[.slice (some ⟨b,0,none⟩) n n]))(hg:w.grownBy w' v.ownBlock):
  ARow E F n sz f lo (k+1) (fun j=>if j=k then b else B j) v' w':=by
 have hkeep:∀{c:Nat} {z:Nat->Value},zAi c F sz sz z w->zAi c F sz sz z w':=fun {c z} h=>by
  cases ho:v.ownBlock with
  |none=>
   rw[ho]at hg;exact h.kept (hg.block c h.lt (by simp))
  |some g=>
   rw[ho]at hg;exact h.kept (h.ty.kept (zDy r.row ho) hEF hg)
 refine⟨?_,fun j hj=>?_⟩
 ·have e:(List.range (k+1)).map (fun j=>(.slice (some ⟨if j=k then b else B j,0,none⟩) n n:Value))=(List.range k).map (fun j=>(.slice (some ⟨B j,0,none⟩) n n:Value))++[.slice (some ⟨b,0,none⟩) n n]:=by
   rw[List.range_succ,List.map_append]
   congr 1
   ·refine List.map_congr_left fun j hj=>?_
    have:=List.mem_range.1 hj;rw[if_neg (by omega)]
   ·simp
  rw[e];exact hown
 ·by_cases e:j=k
  ·subst e;simp only[if_true];exact⟨hkeep hF,hlo⟩
  ·simp only[if_neg e];exact⟨hkeep (r.els j (by omega)).1,(r.els j (by omega)).2⟩
def zGk(F:TypeId)(n sz:Nat)(f:Nat->Nat->Value)(lo k:Nat)(a:Option Addr)(w:World):Prop:=
 ∀j,j<k->∃b c,a=some ⟨b,0,none⟩/\w.cell? ⟨b,j,none⟩=some (.slice (some ⟨c,0,none⟩) n n)/\zAi c F sz sz (f j) w/\lo<=b/\lo<=c
theorem ARow.reads{a}{m c}(r:ARow E F n sz f lo k B (.slice a m c) w):m=k/\zGk F n sz f lo k a w:=by
 have hn:m=k:=by
  obtain⟨_,_,e⟩:=Rw.zAG r.row;simp only[Value.slice.injEq]at e;exact e.2.1
 subst hn;refine⟨rfl,fun j hj=>?_⟩;obtain⟨b,rfl⟩:=Lk.zBW r.row (by omega);have t0:=World.ownsRow.cells r.row (g:=b) rfl j (.slice (some ⟨B j,0,none⟩) n n) (by rw[List.getElem?_map,List.getElem?_range hj];rfl);rw[WideShapes.add_plain]at t0;exact⟨b,B j,rfl,by simpa using t0,(r.els j hj).1,(World.ownsRow.lt r.row b rfl).1,(r.els j hj).2⟩
theorem zGk.frs{a}{S}(h:zGk F n sz f lo k a w)(hf:Fr S w w')(hS:∀x,S x->x<lo):zGk F n sz f lo k a w':=fun j hj=>by
 obtain⟨b,c,e,h1,h2,h3,h4⟩:=h j hj;exact⟨b,c,e,hf.cell h1 (fun hs=>by have:=hS _ hs;dsimp only at this;omega),h2.kept (hf.block c h2.lt fun hs=>by have:=hS _ hs;omega),h3,h4⟩
end
structure TabR (G:Gram) (q:Whole) (aR aA aG:Option Addr) (w:World):Prop where
 rules:RuR 0 G aR w
 acts:zGk 57 (G.terms.length+1) ((G.terms.length+1)*2) (rowV G q) 0 q.1.length aA w
 goto:zGk 3 G.nons.length G.nons.length (tgtV G q) 0 q.1.length aG w
theorem RuR.low{lo lo'}{G}{a}{w}(h:RuR lo G a w)(hl:lo'<=lo):RuR lo' G a w:=fun j hj=>by
 obtain⟨b,a3,c3,e,h1,h2,h3,h4,h5⟩:=h j hj;exact⟨b,a3,c3,e,h1,h2,h3,Nat.le_trans hl h4,fun b3 o e3 hl3=>Nat.le_trans hl (h5 b3 o e3 hl3)⟩
theorem zGk.low{F}{n sz lo lo' k}{f}{a}{w}(h:zGk F n sz f lo k a w)(hl:lo'<=lo):zGk F n sz f lo' k a w:=fun j hj=>by
 obtain⟨b,c,e,h1,h2,h3,h4⟩:=h j hj;exact⟨b,c,e,h1,h2,Nat.le_trans hl h3,Nat.le_trans hl h4⟩
def zGF:Array Value:=#[.slice none 0 0,.int .i64 0,.int .i64 0,.slice none 0 0,.slice none 0 0]
def tbc(aR:Option Addr)(nR cR tm nm:Nat)(va vg:Value):Array Value:=#[.slice aR nR cR,.int .i64 (tm:Int),.int .i64 (nm:Int),va,vg]
inductive OfGave (G:Gram) (w:World) (e:Ending) (w':World):Prop
 |no {er:Int}:TabIs G er tab0->e=.returned (.tuple #[.agg zGF,.int .i64 er])->Below w.heap.size w w'->OfGave G w e w'
 |yes {q:Whole} {aR aA aG:Option Addr} {cR cA cG:Nat}:checkN G=0->Done G q->q.1.length<=2000->Built G 0 (states q)->zBP G q=[]->G.rules.length+1<=cR->e=.returned (.tuple #[.agg (tbc aR (G.rules.length+1) cR G.terms.length G.nons.length (.slice aA q.1.length cA) (.slice aG q.1.length cG)),.int .i64 0])->
   TabR G q aR aA aG w'->Below w.heap.size w w'->OfGave G w e w'
end Ac
namespace Ac
open Gr (Gram boxed)
open Au
open Go.Proofs.YtegeamggbglneaaGreatDoor.Sep
structure TbI (G:Gram) (q:Whole) (aR:Option Addr) (cR p:Nat) (w4:World) (ka kg:Nat) (BA BG:Nat->Nat) (aa:Option Addr) (ca:Nat) (ag:Option Addr) (cg:Nat) (wr:World):Prop where
 box:wr.heap[p]?=some (.cells (tbc aR (G.rules.length+1) cR G.terms.length G.nons.length (.slice aa ka ca) (.slice ag kg cg)) 26 (0,0))
 acts:ARow 53 57 (G.terms.length+1) ((G.terms.length+1)*2) (rowV G q) w4.heap.size ka BA (.slice aa ka ca) wr
 goto:ARow 29 3 G.nons.length G.nons.length (tgtV G q) w4.heap.size kg BG (.slice ag kg cg) wr
 fr:Sep.Fr (fun x=>x=p) w4 wr
 pl:p<w4.heap.size
section
variable {G:Gram} {q:Whole} {aR:Option Addr} {cR p ka kg:Nat} {w4 wr wa wb:World} {BA BG:Nat->Nat} {aa ag:Option Addr} {ca cg:Nat}
theorem TbI.went(r:TbI G q aR cR p w4 ka kg BA BG aa ca ag cg wr)(hb:Below wr.heap.size wr wa):TbI G q aR cR p w4 ka kg BA BG aa ca ag cg wa:=
 ⟨(hb.block p (Array.getElem?_eq_some_iff.1 r.box).1).trans r.box,r.acts.went hb,r.goto.went hb,r.fr.trans (.of_below hb) (fun x hx=> .inl hx),r.pl⟩
theorem TbI.nextA(r:TbI G q aR cR p w4 ka kg BA BG aa ca ag cg wa){b}(hF:zAi b 57 ((G.terms.length+1)*2) ((G.terms.length+1)*2) (rowV G q ka) wa)(hlo:w4.heap.size<=b){a2}{c2}{v'}(hv:v'=.slice a2 (ka+1) c2)
  (hown:wb.ownsRow w4.heap.size 53 1 v' (ka+1) ((List.range ka).map (fun j=>(.slice (some ⟨BA j,0,none⟩) (G.terms.length+1) (G.terms.length+1):Value))++[.slice (some ⟨b,0,none⟩) (G.terms.length+1) (G.terms.length+1)])) (hg:wa.grownBy wb (Value.slice aa ka ca).ownBlock):
  TbI G q aR cR p w4 (ka+1) kg (fun j=>if j=ka then b else BA j) BG a2 c2 ag cg (wb.setCell ⟨p,3,none⟩ v'):=by
 subst hv;have hpw:p<wa.heap.size:=(Array.getElem?_eq_some_iff.1 r.box).1
 have hpg:∀g,(Value.slice aa ka ca).ownBlock=some g->p≠g:=fun g e e2=>by
  have:=(World.ownsRow.lt r.acts.row g e).1;have:=r.pl;omega
 have hbx:=(hg.block p hpw (fun e=>hpg p e.symm rfl)).trans r.box;have A1:=r.acts.snoc hF hlo (by decide) hown hg;have G1:=r.goto.kept' r.acts.row (by decide) (by decide) hg
 have hfb:Sep.Fr (fun x=>x=p) w4 (wb.setCell ⟨p,3,none⟩ (.slice a2 (ka+1) c2)):=
  ((r.fr.grown hg fun g e=> .inr (World.ownsRow.lt r.acts.row g e).1).setCell ⟨p,3,none⟩ rfl _)
 refine⟨?_,A1.kept (x:=p) (U:=26) ⟨_,_,hbx⟩ (by decide) (by decide) (Rg.zAj _ _ _ _),G1.kept (x:=p) (U:=26) ⟨_,_,hbx⟩ (by decide) (by decide) (Rg.zAj _ _ _ _),hfb,r.pl⟩;rw[Rg.zAR hbx (k:=3)]
 rfl
theorem TbI.nextG(r:TbI G q aR cR p w4 ka kg BA BG aa ca ag cg wa){b}(hF:zAi b 3 G.nons.length G.nons.length (tgtV G q kg) wa)(hlo:w4.heap.size<=b){a2}{c2}{v'}(hv:v'=.slice a2 (kg+1) c2)
  (hown:wb.ownsRow w4.heap.size 29 1 v' (kg+1) ((List.range kg).map (fun j=>(.slice (some ⟨BG j,0,none⟩) G.nons.length G.nons.length:Value))++[.slice (some ⟨b,0,none⟩) G.nons.length G.nons.length])) (hg:wa.grownBy wb (Value.slice ag kg cg).ownBlock):
  TbI G q aR cR p w4 ka (kg+1) BA (fun j=>if j=kg then b else BG j) aa ca a2 c2 (wb.setCell ⟨p,4,none⟩ v'):=by
 subst hv;have hpw:p<wa.heap.size:=(Array.getElem?_eq_some_iff.1 r.box).1
 have hpg:∀g,(Value.slice ag kg cg).ownBlock=some g->p≠g:=fun g e e2=>by
  have:=(World.ownsRow.lt r.goto.row g e).1;have:=r.pl;omega
 have hbx:=(hg.block p hpw (fun e=>hpg p e.symm rfl)).trans r.box;have A1:=r.goto.snoc hF hlo (by decide) hown hg;have G1:=r.acts.kept' r.goto.row (by decide) (by decide) hg
 have hfb:Sep.Fr (fun x=>x=p) w4 (wb.setCell ⟨p,4,none⟩ (.slice a2 (kg+1) c2)):=
  ((r.fr.grown hg fun g e=> .inr (World.ownsRow.lt r.goto.row g e).1).setCell ⟨p,4,none⟩ rfl _)
 refine⟨?_,G1.kept (x:=p) (U:=26) ⟨_,_,hbx⟩ (by decide) (by decide) (Rg.zAj _ _ _ _),A1.kept (x:=p) (U:=26) ⟨_,_,hbx⟩ (by decide) (by decide) (Rg.zAj _ _ _ _),hfb,r.pl⟩;rw[Rg.zAR hbx (k:=4)]
 rfl
theorem TbI.midA(r:TbI G q aR cR p w4 ka kg BA BG aa ca ag cg wa)(hg:wa.grownBy wb (Value.slice aa ka ca).ownBlock):Sep.Fr (fun x=>x=p) w4 wb/\wb.heap[p]?=some (.cells (tbc aR (G.rules.length+1) cR G.terms.length G.nons.length (.slice aa ka ca) (.slice ag kg cg)) 26 (0,0)):=by
 refine⟨r.fr.grown hg fun g e=> .inr (World.ownsRow.lt r.acts.row g e).1,(hg.block p (Array.getElem?_eq_some_iff.1 r.box).1 fun e=>?_).trans r.box⟩;have:=(World.ownsRow.lt r.acts.row _ e.symm).1;have:=r.pl;omega
theorem TbI.midG(r:TbI G q aR cR p w4 ka kg BA BG aa ca ag cg wa)(hg:wa.grownBy wb (Value.slice ag kg cg).ownBlock):Sep.Fr (fun x=>x=p) w4 wb/\wb.heap[p]?=some (.cells (tbc aR (G.rules.length+1) cR G.terms.length G.nons.length (.slice aa ka ca) (.slice ag kg cg)) 26 (0,0)):=by
 refine⟨r.fr.grown hg fun g e=> .inr (World.ownsRow.lt r.goto.row g e).1,(hg.block p (Array.getElem?_eq_some_iff.1 r.box).1 fun e=>?_).trans r.box⟩;have:=(World.ownsRow.lt r.goto.row _ e.symm).1;have:=r.pl;omega
theorem TbI.reads(r:TbI G q aR cR p w4 ka kg BA BG aa ca ag cg wr):zGk 57 (G.terms.length+1) ((G.terms.length+1)*2) (rowV G q) w4.heap.size ka aa wr/\zGk 3 G.nons.length G.nons.length (tgtV G q) w4.heap.size kg ag wr:=⟨r.acts.reads.2,r.goto.reads.2⟩
end
theorem RuR.frs2{lo}{G}{a}{w w'}{S}(h:RuR lo G a w)(hf:Fr S w w')(hS:∀x,S x->x<lo\/w.heap.size<=x):RuR lo G a w':=fun j hj=>by
 obtain⟨b,a3,c3,e,h1,h2,h3,h4,h5⟩:=h j hj;have hb:=World.block_lt_of_cell? w ⟨b,j*2,none⟩ h1;refine⟨b,a3,c3,e,hf.cell h1 (fun hs=>by have:=hS _ hs;dsimp only at*;omega),hf.cell h2 (fun hs=>by have:=hS _ hs;dsimp only at*;omega),fun i hi=>?_,h4,h5⟩;obtain⟨b3,o3,e3,e4⟩:=h3 i hi;have hb3:=World.block_lt_of_cell? w _ e4;exact⟨b3,o3,e3,hf.cell e4 (fun hs=>by have:=hS _ hs;have:=h5 b3 o3 e3 (by simp only[Gr.ivs,List.length_map]at hi;omega);dsimp only at*;omega)⟩
structure OfB (G:Gram) (W:World) (aR:Option Addr) (cR p:Nat) (w5:World):Prop where
 box:w5.heap[p]?=some (.cells #[.slice aR (G.rules.length+1) cR,.int .i64 (G.terms.length:Int),.int .i64 (G.nons.length:Int),.slice none 0 0,.slice none 0 0] 26 (0,0))
 pl:p<w5.heap.size
 lo:W.heap.size<=p
 below:Below W.heap.size W w5
 rules:∀w',Sep.Fr (fun x=>x=p\/x<W.heap.size) w5 w'->RuR 0 G aR w'
 cap:G.rules.length+1<=cR
theorem OfB.start{G}{q}{W w5}{aR}{cR p}(h:OfB G W aR cR p w5):TbI G q aR cR p w5 0 0 (fun _=>0) (fun _=>0) none 0 none 0 w5:=
 ⟨h.box,.nil _,.nil _,.refl _ _,h.pl⟩
theorem OfB.after{G}{W we}{aR}{cR lo}(h:Below W.heap.size W we)(hr:RuR lo G aR we)(hlo:W.heap.size<=lo)(hcp:G.rules.length+1<=cR):OfB G W aR cR we.heap.size (we.alloc (.cells #[.slice aR (G.rules.length+1) cR,.int .i64 (G.terms.length:Int),.int .i64 (G.nons.length:Int),.slice none 0 0,.slice none 0 0] 26)):=by
 refine⟨World.alloc_heap_new _ _,?_,h.size,Gr.step h (boxed _ _),fun w' hf=>?_,hcp⟩
 ·rw[World.size_alloc];exact Nat.lt_succ_self _
 ·refine(hr.frs2 ((Sep.Fr.of_below (S:=fun x=>x=we.heap.size\/x<W.heap.size) (boxed we (.cells #[.slice aR (G.rules.length+1) cR,.int .i64 (G.terms.length:Int),.int .i64 (G.nons.length:Int),.slice none 0 0,.slice none 0 0] 26))).trans hf fun x hx=> .inl hx) (fun x hx=>?_)).low (Nat.zero_le _);omega
theorem OfB.ahead{G}{W we}{aR}{cR p lo}{u0 u1 u2 u3 u4}(h:Below W.heap.size W we)(hp:W.heap.size<=p)(kb:we.heap[p]?=some (.cells #[u0,u1,u2,u3,u4] 26 (0,0)))(hr:RuR lo G aR we)(hlo:p<lo)(hcp:G.rules.length+1<=cR):
  OfB G W aR cR p (((((we.setCell ⟨p,0,none⟩ (.slice aR (G.rules.length+1) cR)).setCell ⟨p,1,none⟩ (.int .i64 (G.terms.length:Int))).setCell ⟨p,2,none⟩ (.int .i64 (G.nons.length:Int))).setCell ⟨p,3,none⟩ (.slice none 0 0)).setCell ⟨p,4,none⟩ (.slice none 0 0)):=by
 have f:Sep.Fr (fun x=>x=p) we (((((we.setCell ⟨p,0,none⟩ (.slice aR (G.rules.length+1) cR)).setCell ⟨p,1,none⟩ (.int .i64 (G.terms.length:Int))).setCell ⟨p,2,none⟩ (.int .i64 (G.nons.length:Int))).setCell ⟨p,3,none⟩ (.slice none 0 0)).setCell ⟨p,4,none⟩ (.slice none 0 0)):=
  (((((Sep.Fr.refl (fun x=>x=p) we).setCell ⟨p,0,none⟩ rfl _).setCell ⟨p,1,none⟩ rfl _).setCell ⟨p,2,none⟩ rfl _).setCell ⟨p,3,none⟩ rfl _).setCell ⟨p,4,none⟩ rfl _
 refine⟨?_,Nat.lt_of_lt_of_le (Array.getElem?_eq_some_iff.1 kb).1 f.size,hp,h.trans (f.below (fun x hx=>by omega) h.size),fun w' hf=>?_,hcp⟩
 ·rw[Rg.zAR (k:=4) (Rg.zAR (k:=3) (Rg.zAR (k:=2) (Rg.zAR (k:=1) (Rg.zAR (k:=0) kb _) _) _) _)]
  rfl
 ·exact(hr.frs ((f.mono (T:=fun x=>x=p\/x<W.heap.size) fun x hx=> .inl hx).trans hf fun x hx=> .inl hx) (fun x hx=>by omega)).low (Nat.zero_le _)
