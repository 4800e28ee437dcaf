/- A part of the proof. -/
import Derived.Test.YtegeamggbglneaaGreatDoorPk05
import Derived.Test.YtegeamggbglneaaGreatDoorPk06
set_option maxHeartbeats 4000000
set_option maxRecDepth 100000
set_option linter.unusedVariables false
namespace Go.Proofs.YtegeamggbglneaaGreatDoor
open Go.RowKit Go.Maps
namespace Gr
theorem zOW(r q)(a b)(c d)(w)(ha:Sep.Reads a (ivs r.2) w)(hb:Sep.Reads b (ivs q.2) w)(hl:r.2.length<=17592186044416)(hm:q.2.length<=17592186044416):
  Calls Tryz.prog 155 #[.agg #[.int .i64 r.1,.slice a r.2.length c],.agg #[.int .i64 q.1,.slice b q.2.length d]] w (Is (.bool (zBj r q)) w):=by
 have H:=zV7 (fun w1 (k:Below w.heap.size w w1)=>zSd r.2 q.2 a b c d w1 (ha.below k (Nat.le_refl _)) (hb.below k (Nat.le_refl _)) hl hm);have X:=zV7 (fun o1 o2=>step (boxed w o1) (boxed (w.alloc o1) o2));clear ha hb
 by_cases h1:r.1=q.1
 ·have E:=zV7 (show zBj r q=zB2 r.2 q.2 by simp[zBj,h1,zB2]);rw[h1];clear h1;go_enter Tryz.func155,Tryz.ntmps155;go_wp2_with (go_at_call 177;refine(H.out _ (X.out _ _)).mono ?_;rintro e w1 ⟨rfl,rfl⟩);go_ret;exact⟨zAD E.out,X.out _ _⟩
 ·have E:=zV7 (show zBj r q=false by simp[zBj,h1]);have h2:(r.1==q.1)=false:=by simpa using h1
  clear h1;go_enter Tryz.func155,Tryz.ntmps155;go_wp2;go_ret;exact⟨zAD E.out,X.out _ _⟩
theorem zEK(r q)(a b)(c d)(w)(ha:Sep.Reads a (ivs r.2) w)(hb:Sep.Reads b (ivs q.2) w)(hl:r.2.length<=17592186044416)(hm:q.2.length<=17592186044416):
  Calls Tryz.prog 36 #[.agg #[.int .i64 r.1,.slice a r.2.length c],.agg #[.int .i64 q.1,.slice b q.2.length d]] w (Is (.bool (zBj r q)) w):=by
 have H:=zV7 (fun w1 (k:Below w.heap.size w w1)=>zDv r.2 q.2 a b c d w1 (ha.below k (Nat.le_refl _)) (hb.below k (Nat.le_refl _)) hl hm);have X:=zV7 (fun o1 o2=>step (boxed w o1) (boxed (w.alloc o1) o2));clear ha hb
 by_cases h1:r.1=q.1
 ·have E:=zV7 (show zBj r q=zB2 r.2 q.2 by simp[zBj,h1,zB2]);rw[h1];clear h1;go_enter Tryz.func36,Tryz.ntmps36;go_wp2_with (go_at_call 35;refine(H.out _ (X.out _ _)).mono ?_;rintro e w1 ⟨rfl,hb⟩;have HB:=zV7 (step (X.out _ _) hb);clear hb);go_ret;exact⟨zAD E.out,HB.out⟩
 ·have E:=zV7 (show zBj r q=false by simp[zBj,h1]);have h2:(r.1==q.1)=false:=by simpa using h1
  clear h1;go_enter Tryz.func36,Tryz.ntmps36;go_wp2;go_ret;exact⟨zAD E.out,X.out _ _⟩
structure B2 (W:World) (h l:Sh) (G H:Gram) (w:World):Prop where
 below:Below W.heap.size W w
 b1:Box W.heap.size h G w
 b2:Box (W.heap.size+1) l H w
theorem law:Keyed Tryz.prog 9:=string_keyed Tryz.underlying9
theorem zRm{s}(h:s.size<=maxLen):keyOf Tryz.prog 9 (.string s)=some (.string s.data.toList):=WideMaps.keyOf_string_mk Tryz.underlying9 h
theorem zS8{s:ByteArray}(h:s.size<=maxLen):WideAt.IsKeyLit (.string s.data.toList):=law.key (zRm h)
noncomputable abbrev zO9:Value->Option (DataW Unit×List MemPlace):=plainElem Tryz.prog 3
def Keys(L:List ByteArray)(D:DataW Unit):Prop:=
 (∀s:ByteArray,Maps.has D (.string s.data.toList)=It.isIn L s)/\Maps.size D<=L.length/\(Maps.size D=L.length↔L.Nodup)
theorem zP4:Keys [] (.map []):=⟨fun s=>rfl,by simp[Maps.size],by simp[Maps.size]⟩
theorem zP5{L}{D}{s}(hT:Tidy D)(hM:IsMap D)(hk:WideAt.IsKeyLit (.string s.data.toList))(h:Keys L D)(d):Keys (L++[s]) (D.put (.string s.data.toList) d):=by
 obtain⟨h1,h2,h3⟩:=h;have hz:=size_put (k:=.string s.data.toList) hT d;rw[h1 s]at hz;refine⟨fun t=>?_,?_,?_⟩
 ·by_cases e:s=t
  ·subst e;rw[has_put_same hM hk,It.zH5]
  ·have hne:(Lit.string t.data.toList)≠.string s.data.toList:=fun h=>e (It.zJy (by injection h with h;exact h.symm))
   rw[has_put_other hne,h1 t,Bool.eq_iff_iff,It.zCU,It.zCU];simp[Ne.symm e]
 ·rw[hz];split<;>simp<;>omega
 ·rw[hz];cases hi:It.isIn L s with
  |true=>
   have hm:=It.zCU.1 hi;rw[if_pos rfl];constructor
   ·intro e;simp at e;omega
   ·intro hN;rw[List.nodup_append]at hN;exact absurd rfl (hN.2.2 s hm s (by simp))
  |false=>
   have hm:s∉L:=fun h=>by rw[It.zCU.2 h]at hi;cases hi
   rw[if_neg (by simp)];simp only[List.length_append,List.length_cons,List.length_nil,Nat.zero_add,Nat.add_right_cancel_iff];rw[h3,List.nodup_append];constructor
   ·intro hN;refine⟨hN,by simp,fun a ha b hb=>?_⟩;simp only[List.mem_singleton]at hb;subst hb;exact fun e=>hm (e▸ha)
   ·exact fun hN=>hN.1
theorem zNj{G}(h:GOk G){s}(hs:s<(names G).length):((names G)[s]).size<=140737488355328:=by
 have:=List.getElem_mem hs;rcases List.mem_append.1 (show(names G)[s]∈G.terms++G.nons from this)with h1|h1
 ·exact h.terms _ h1
 ·exact h.nons _ h1
theorem zF6(h:Sh)(G:Gram)(w:World)(k:GAt h G w):
  Calls Tryz.prog 126 #[gv h G] w (Is (.bool (!zFW G)) w):=by
 have T:=zV7 (fun w1 (b:Below w.heap.size w w1)=>zB8 h G w1 (k.went b));have N:=zV7 (fun s w1 (b:Below w.heap.size w w1)=>zHB h G s w1 (k.went b));have X:=zV7 (Bx.start h G w 47);have SZ:=zV7 (fun s hs=>zNj k.ok (s:=s) hs);have ht:top G<=281474976710656:=by have:=k.t2;have:=k.n2;unfold top;omega
 have hmm:=@run_makeMap Tryz.prog;clear k;unfold gv;go_enter Tryz.func126,Tryz.ntmps126;go_wp2;go_loopw [4] (fun i wr=>∃j:Nat,∃D,j<=top G/\i=.int .i64 ((j:Int)+1)/\Bx w h G wr/\wr.ownsMap Tryz.prog 9 zO9 (w.heap.size+1) j D/\Keys ((names G).take j) D) (fun i _=>(top G+1)-(intOf i).toNat)
 case atStart=>exact⟨0,.map [],Nat.zero_le _,rfl,X.out.alloc _,by simpa using World.ownsMap_made (w.alloc _) Tryz.prog 9 zO9,by simpa using zP4⟩
 case round=>
  clear X;obtain⟨j,D,hj,rfl,hX,hO,hK⟩:=hrel;have X:=zV7 hX;obtain⟨x0,x1,x2,x3⟩:=hX.box;have O:=zV7 hO;have KY:=zV7 hK;clear hX hO hK
  by_cases hlt:j<top G
  ·have hl:j<(names G).length:=by rw[zBR];exact hlt
   have E:=zV7 (zJO hlt);have ST:=zV7 (List.take_succ_eq_append_getElem hl);have hs:=SZ.out j hl;generalize (names G)[j]=x at E ST hs;have hk:=zV7 (zRm (s:=x) (by unfold maxLen;omega));have K2:=zV7 (fun d=>zP5 (O.out.tidy law) O.out.isMap (zS8 (s:=x) (by unfold maxLen;omega)) KY.out d);clear hl
   go_wp2_with (first
    |(go_at_call 134;refine(T.out _ X.out.below).mono ?_;rintro e w1 ⟨rfl,hb⟩;have X:=zV7 (X.out.went hb);have O:=zV7 (Sep.ownsMap_at O.out (hb.block _ O.out.lt));obtain⟨x0,x1,x2,x3⟩:=X.out.box;clear hb)
    |(go_at_call 152;refine(N.out _ _ X.out.below).mono ?_;rw[E.out];rintro e w2 ⟨rfl,hb⟩;have X:=zV7 (X.out.went hb);have O:=zV7 (Sep.ownsMap_at O.out (hb.block _ O.out.lt));clear hb)
    | (at_mapUpdate;refine wpList_mapUpdate_own _ rfl _ _ _ 164 rfl 9 3 law Tryz.underlying164 zO9 (w.heap.size+1) j D rfl O.out (by unfold maxLen;omega) _ _ _ rfl rfl hk.out _ [] (plainElem_int Tryz.underlying3 (WalkArith.wf_i64 (by omega))) ?_;intro w3 hown1 hg1;have X:=zV7 (X.out.grown hg1 (fun q hq=>by injection hq with hq;omega));have O:=zV7 hown1;clear hown1 hg1))
   go_roundw
   case rel=>exact⟨j+1,_,by omega,by go_num,X.out,O.out,by rw[ST.out];exact K2.out _⟩
   case measure=>simp[intOf];omega
  ·have hE:j=top G:=by omega
   subst hE;have HK:=zV7 (show Keys (names G) D by have h1:=KY.out;rw[List.take_of_length_le (by rw[zBR];exact Nat.le_refl _)]at h1;exact h1);have hsz:=HK.out.2.1;rw[zBR]at hsz
   go_wp2_with (first
    |(go_at_call 134;refine(T.out _ X.out.below).mono ?_;rintro e w1 ⟨rfl,hb⟩;have X:=zV7 (X.out.went hb);have O:=zV7 (Sep.ownsMap_at O.out (hb.block _ O.out.lt));obtain⟨x0,x1,x2,x3⟩:=X.out.box;clear hb)
    | (at_len;refine wpList_len_own _ rfl _ 164 rfl 9 3 Tryz.underlying164 zO9 (w.heap.size+1) (top G) D rfl O.out ?_))
   go_ret;refine⟨zAD ?_,X.out.below⟩;have h3:=HK.out.2.2;rw[zBR]at h3;unfold zFW
   by_cases hN:(names G).Nodup
   ·rw[decide_eq_true hN];have:=h3.2 hN;simp;omega
   ·rw[decide_eq_false hN];have:¬Maps.size D=top G:=fun e=>hN (h3.1 e)
    simp;omega
def zMD(l:List Int)(w:World)(e:Ending)(w':World):Prop:=
 ∃a c,e=.returned (.slice a l.length c)/\Sep.Reads a (ivs l) w'/\New a w/\Below w.heap.size w w'/\l.length<=c
def zUE(r:Int×List Int)(ok:Bool)(w:World)(e:Ending)(w':World):Prop:=
 ∃a c,e=.returned (.tuple #[.agg #[.int .i64 r.1,.slice a r.2.length c],.bool ok])/\Sep.Reads a (ivs r.2) w'/\Below w.heap.size w w'/\New a w/\r.2.length<=c
theorem zMb(a:Option Addr)(l:List Int)(c:Nat)(w:World)(h:Sep.Reads a (ivs l) w)(hl:l.length<=17592186044416):
  Calls Tryz.prog 75 #[.slice a l.length c] w (zMD l w):=by
 obtain⟨i0,hi,hz0,hz1,hz2⟩:=info_parts zA0;cases a with
 |none=>
  have h0:l=[]:=by
   rcases l with _|⟨x,l⟩
   ·rfl
   ·obtain⟨_,_,e,_⟩:=h 0 (by simp[ivs]);cases e
  subst h0;have hn:=Lib.run_eql_slice_nil (P:=Tryz.prog);go_enter Tryz.func75,Tryz.ntmps75;go_wp2;go_ret;exact⟨Option.none,_,rfl,.nil _ _,(fun _ h=>by cases h),.refl _ _,Nat.zero_le _⟩
 |some x=>
  have HB:=zV7 (fun v (w1 w2:World) (h1:w2.ownsRow w.heap.size 3 1 v (0+l.length) ([]++ivs l)) (h2:(w.alloc (.cells #[] 3)).grownBy w2 (some w.heap.size))=>show zMD l w (.returned v) w2 from by
   rw[Nat.zero_add,List.nil_append]at h1;obtain⟨a',c',rfl⟩:=Sep.zBC h1
   exact⟨a',c',rfl,.of_row h1,zHL h1 (Nat.le_refl _),((Below.refl _ _).alloc (Nat.le_refl _) _).grown h2 (by simp) fun k hk=>by injection hk with hk;omega,zTk h1⟩)
  have HO:=zV7 (World.ownsRow_made (base:=w.heap.size) (e:=3) (size:=1) w #[] 0 (Nat.le_refl _) (by simp) (by simp))
  have HN:=zV7 (show∀(j:Nat) (u:Value),(ivs l)[j]?=some u->(w.alloc (.cells #[] 3)).cell? (x.add j)=some u from fun j u hj=>by
   obtain⟨hj1,rfl⟩:=List.getElem?_eq_some_iff.1 hj;obtain⟨b,o,e,hc⟩:=h j hj1;injection e with e
   subst e;rw[WideShapes.add_plain]
   exact cell_later (boxed _ _) hc)
  have HL:=zV7 (zNL l);have hll:=zGS l;clear h;have hn:=Lib.run_eql_slice_nil (P:=Tryz.prog);have hb:=zGG;go_enter Tryz.func75,Tryz.ntmps75;go_wp2_with (at_builtin;refine wpList_append_own_at _ rfl _ _ 29 rfl w.heap.size 3 i0 (.int .i64 0) 1 8 Tryz.underlying29 hi hz0 hz1 hz2 rfl (by decide) _ _ _ rfl HO.out x l.length c (ivs l) rfl (by simp[ivs]) HN.out HL.out (by unfold maxLen;omega) (by omega) (by simp) ?_;intro v' w2 hown2 hg2 _ _;have HE:=zV7 (HB.out v' w w2 hown2 hg2);clear hown2 hg2);go_ret;exact HE.out
theorem zKf(h:Sh)(G:Gram)(i:Int)(w:World)(k:GAt h G w):
  Calls Tryz.prog 98 #[gv h G,.int .i64 i] w (zUE (zAF G i) (zAY G i) w):=by
 have X:=zV7 (Bx.start h G w 47);have hc3:=k.r2
 by_cases h0:i<0\/(G.rules.length:Int)<i
 ·obtain⟨e1,e2⟩:=zKg h0;rw[e1,e2];clear k e1 e2
  by_cases h1:i<0
  ·clear h0;unfold gv;go_enter Tryz.func98,Tryz.ntmps98;go_wp2;exact bodyPost_ret (v:=.tuple #[.agg #[.int .i64 0,.slice Option.none 0 0],.bool false]) (by simp[results,Tryz.results98,go_sem]) rfl ⟨_,_,rfl,.nil _ _,(X.out.alloc _).below,(fun _ h=>by cases h),Nat.zero_le _⟩
  ·have h2:(G.rules.length:Int)<i:=by omega
   clear h0;unfold gv;go_enter Tryz.func98,Tryz.ntmps98;go_wp2;exact bodyPost_ret (v:=.tuple #[.agg #[.int .i64 0,.slice Option.none 0 0],.bool false]) (by simp[results,Tryz.results98,go_sem]) rfl ⟨_,_,rfl,.nil _ _,(X.out.alloc _).below,(fun _ h=>by cases h),Nat.zero_le _⟩
 ·by_cases h1:i=(G.rules.length:Int)
  ·subst h1;obtain⟨e1,e2⟩:=zA1 G;rw[e1,e2];clear k e1 e2 h0;unfold gv;go_enter Tryz.func98,Tryz.ntmps98;go_wp2;refine bodyPost_ret (v:=.tuple #[.agg #[.int .i64 0,.slice (some ⟨w.heap.size+1+1,0,Option.none⟩) 1 1],.bool true]) (by simp[results,Tryz.results98,go_sem]) rfl ⟨_,_,rfl,zFh (zAC (by simp) rfl),((X.out.alloc _).alloc _).below,(fun x h=>by injection h with h;subst h;dsimp only;omega),Nat.le_refl _⟩
  ·obtain⟨j,rfl⟩:∃j:Nat,i=(j:Int):=⟨i.toNat,by omega⟩;have hj:j<G.rules.length:=by omega
   obtain⟨e1,e2⟩:=zBM hj;rw[e1,e2];obtain⟨a1,c1,a2,c2,a3,c3⟩:=h;obtain⟨b,o,ra,rc,e,g1,g2,g3,g4,g5⟩:=k.rules j hj;dsimp only at e;subst e;generalize G.rules[j]=r at g1 g2 g3 g4 g5⊢;have hblt:b<w.heap.size:=World.block_lt_of_cell? w ⟨b,o+j*2,Option.none⟩ g1;have HR:=zV7 (show Sep.Reads ra (ivs r.2) w from g3);clear k e1 e2 h0 h1 g3;unfold gv;dsimp only;go_enter Tryz.func98,Tryz.ntmps98;go_wp2;obtain⟨wq,hwq⟩:∃wq,((w.alloc (.cells #[.slice a1 G.terms.length c1,.slice a2 G.nons.length c2,.slice (some ⟨b,o,Option.none⟩) G.rules.length c3,.int .i64 G.start] 47)).alloc (.cells #[.int .i64 0,.slice Option.none 0 0] 55)).alloc (.cells #[.int .i64 r.1,.slice ra r.2.length rc] 55)=wq:=⟨_,rfl⟩;rw[hwq];have q0:wq.cell? ⟨w.heap.size+1+1,0,Option.none⟩=some (.int .i64 r.1):=by rw[←hwq];exact zAC (by simp) rfl
   have q1:wq.cell? ⟨w.heap.size+1+1,1,Option.none⟩=some (.slice ra r.2.length rc):=by rw[←hwq];exact zAC (by simp) rfl
   have q2:wq.cell? ⟨w.heap.size+1,0,Option.none⟩=some (.int .i64 0):=by rw[←hwq];exact zAT (zAC (by simp) rfl)
   have q3:wq.cell? ⟨w.heap.size+1,1,Option.none⟩=some (.slice Option.none 0 0):=by rw[←hwq];exact zAT (zAC (by simp) rfl)
   have q4:wq.frozen? ⟨w.heap.size+1,0,Option.none⟩=false:=by rw[←hwq];exact zBJ (i:=0) (boxed _ _) (zCS (by simp)) (zAC (by simp) rfl)
   have q5:wq.frozen? ⟨w.heap.size+1,1,Option.none⟩=false:=by rw[←hwq];exact zBJ (i:=0) (boxed _ _) (zCS (by simp)) (zAC (by simp) rfl)
   have QB:=zV7 (show Below w.heap.size w wq by rw[←hwq];exact((X.out.alloc _).alloc _).below);have QC:=zV7 (fun w1 (k:Below wq.heap.size wq w1)=>zMb ra r.2 rc w1 ((HR.out.below QB.out (Nat.le_refl _)).below k (Nat.le_refl _)) (by omega))
   have HQ:=zV7 (show∀w',Below wq.heap.size wq w'->w'.cell? ⟨w.heap.size+1+1,0,Option.none⟩=some (.int .i64 r.1)/\w'.cell? ⟨w.heap.size+1+1,1,Option.none⟩=some (.slice ra r.2.length rc)/\Below w.heap.size w w'
    from fun w' hb=>⟨cell_later hb q0,cell_later hb q1,QB.out.trans (hb.mono QB.out.size)⟩)
   have HT:=zV7 (show∀w' u v,Below wq.heap.size wq w'->((w'.setCell ⟨w.heap.size+1,0,Option.none⟩ u).setCell ⟨w.heap.size+1,1,Option.none⟩ v).cell? ⟨w.heap.size+1+1,0,Option.none⟩=some (.int .i64 r.1)/\((w'.setCell ⟨w.heap.size+1,0,Option.none⟩ u).setCell ⟨w.heap.size+1,1,Option.none⟩ v).cell? ⟨w.heap.size+1+1,1,Option.none⟩=some (.slice ra r.2.length rc)/\Below w.heap.size w ((w'.setCell ⟨w.heap.size+1,0,Option.none⟩ u).setCell ⟨w.heap.size+1,1,Option.none⟩ v)
    from fun w' u v hb=>⟨by rw[World.cell?_setCell_other _ _ _ _ (by intro e;simp at e),World.cell?_setCell_other _ _ _ _ (by intro e;simp at e)];exact cell_later hb q0,by rw[World.cell?_setCell_other _ _ _ _ (by intro e;simp at e),World.cell?_setCell_other _ _ _ _ (by intro e;simp at e)];exact cell_later hb q1,
     ((QB.out.trans (hb.mono QB.out.size)).setCell (by simp) _).setCell (by simp) _⟩)
   have hbd:=drawn wq;clear hwq X HR
   go_region_held3 (fun w'=>w'.cell? ⟨w.heap.size+1+1,0,Option.none⟩=some (.int .i64 r.1)/\w'.cell? ⟨w.heap.size+1+1,1,Option.none⟩=some (.slice ra r.2.length rc)/\Below w.heap.size w w')
    (first|exact HQ.out _ (by assumption)|exact HT.out _ _ _ (by assumption))
    (first
     |(go_at_call 75;refine(QC.out _ hbd).mono ?_;rintro e wn ⟨a',c',rfl,hr,hnew,hb,hcp⟩;have HCP:=zV7 hcp;have HR3:=zV7 hr;have HN:=zV7 hnew;have kB:Below wq.heap.size wq wn:=step hbd hb;have z2:=cell_later kB q2;have z3:=cell_later kB q3;have z4:=zBJ kB q4 q2;have z5:=zBJ kB q5 q2;clear hr hnew hb hcp)
     |fail)
   go_wp2;have hqs:=World.block_lt_of_cell? wq ⟨w.heap.size+1,0,Option.none⟩ q2
   have f0:((wn.setCell ⟨w.heap.size+1,0,Option.none⟩ (.int .i64 r.1)).setCell ⟨w.heap.size+1,1,Option.none⟩ (.slice a' r.2.length c')).cell? ⟨w.heap.size+1,0,Option.none⟩=some (.int .i64 r.1):=by
    rw[World.cell?_setCell_other _ _ _ _ (by intro e;simp at e)];exact World.cell?_setCell_same _ _ _ z2
   have f1:((wn.setCell ⟨w.heap.size+1,0,Option.none⟩ (.int .i64 r.1)).setCell ⟨w.heap.size+1,1,Option.none⟩ (.slice a' r.2.length c')).cell? ⟨w.heap.size+1,1,Option.none⟩=some (.slice a' r.2.length c'):=by
    have y3:(wn.setCell ⟨w.heap.size+1,0,Option.none⟩ (.int .i64 r.1)).cell? ⟨w.heap.size+1,1,Option.none⟩=some (.slice Option.none 0 0):=by
     rw[World.cell?_setCell_other _ _ _ _ (by intro e;simp at e)];exact z3
    exact World.cell?_setCell_same _ _ _ y3
   have HF:=zV7 (show Sep.Reads a' (ivs r.2) ((wn.setCell ⟨w.heap.size+1,0,Option.none⟩ (.int .i64 r.1)).setCell ⟨w.heap.size+1,1,Option.none⟩ (.slice a' r.2.length c'))from HR3.out.keep fun b' o' e'=>by
    have hn:=HN.out _ e';have hn':wq.heap.size<=b':=hn;have hqs':w.heap.size+1<wq.heap.size:=hqs
    rw[Below.heap_setCell _ _ _ _ (by simp;omega),Below.heap_setCell _ _ _ _ (by simp;omega)])
   exact bodyPost_ret (v:=.tuple #[.agg #[.int .i64 r.1,.slice a' r.2.length c'],.bool true]) (by simp[results,Tryz.results98,go_sem,f0,f1]) rfl ⟨_,_,rfl,HF.out,(HT.out _ _ _ kB).2.2,(fun x hx=>by have h1:=HN.out x hx;have hqs':w.heap.size+1<wq.heap.size:=hqs;have h2:wq.heap.size<=x.block:=h1;omega),HCP.out⟩
