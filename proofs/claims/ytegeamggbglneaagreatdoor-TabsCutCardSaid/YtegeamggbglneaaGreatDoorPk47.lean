/- Proof. -/
import Derived.Deep.Cut
import Derived.Test.YtegeamggbglneaaGreatDoorPk45
set_option maxHeartbeats 4000000
set_option maxRecDepth 100000
set_option linter.unusedVariables false
namespace Go.Proofs.YtegeamggbglneaaGreatDoor
open Go.RowKit Go.Maps
namespace Ac
open Go.Proofs (step_copy_runI)
open Lk (gF fT lc rz mC dE yx)
theorem z8(X:List gF):∀v∈X.flatMap lc,v.oneCell'=true:=by
 intro v hv;obtain⟨x,_,h⟩:=List.mem_flatMap.1 hv;simp only[lc,List.mem_cons,List.not_mem_nil,or_false]at h;rcases h with rfl|rfl<;>rfl
theorem NZ(x):∀v∈lc x,v.oneCell'=true:=by
 have:=z8 [x]
 simpa using this
theorem fp{w:World}{b k}{cs}{T}(h:w.heap[b]?=some (.cells cs T (0,0))):w.frozen? ⟨b,k,none⟩=false:=by
 simp[World.frozen?,h]
theorem zTZ(cur:Array Value)(x)(X)(hc:(X.length+1)*2<=cur.size):
  let c1:=(cur.toList.take 2++X.flatMap lc++cur.toList.drop (2+(X.flatMap lc).length)).toArray
  let c2:=(c1.toList.take 0++lc x++c1.toList.drop (0+(lc x).length)).toArray
  c2.size=cur.size/\c2.toList.take ((X.length+1)*2)=(x::X).flatMap lc:=by
 have hl:=mC X;have hll:(lc x).length=2:=rfl;have h2:(cur.toList.take 2).length=2:=by simp only[List.length_take,Array.length_toList];omega
 refine⟨?_,?_⟩
 ·simp only[List.size_toArray,List.length_append,List.length_take,List.length_drop,Array.length_toList,hl,hll];omega
 ·simp only[List.take_zero,List.nil_append,hll,Nat.zero_add,List.flatMap_cons];rw[List.append_assoc (cur.toList.take 2),List.drop_append_of_le_length (by omega),List.drop_eq_nil_of_le (by omega),List.nil_append,←List.append_assoc];rw[List.take_append_of_le_length (by simp only[List.length_append,hl,hll];omega),List.take_of_length_le (by simp only[List.length_append,hl,hll];omega)]
theorem zTo(cur:Array Value)(x)(X)(hc:(X.length+1)*2<=cur.size):
  let c1:=(cur.toList.take 0++lc x++cur.toList.drop (0+(lc x).length)).toArray
  let c2:=(c1.toList.take 2++X.flatMap lc++c1.toList.drop (2+(X.flatMap lc).length)).toArray
  c1.size=cur.size/\c2.size=cur.size/\c2.toList.take ((X.length+1)*2)=(x::X).flatMap lc:=by
 have hl:=mC X;have hll:(lc x).length=2:=rfl;refine⟨?_,?_,?_⟩
 ·simp only[List.size_toArray,List.length_append,List.length_take,List.length_drop,Array.length_toList,hll];omega
 ·simp only[List.size_toArray,List.length_append,List.length_take,List.length_drop,Array.length_toList,hl,hll];omega
 ·simp only[List.take_zero,List.nil_append,hll,Nat.zero_add,List.flatMap_cons];rw[List.take_append_of_le_length (i:=2) (by omega),List.take_of_length_le (i:=2) (l:=lc x) (by omega)];rw[List.take_append_of_le_length (by simp only[List.length_append,hl,hll];omega),List.take_of_length_le (by simp only[List.length_append,hl,hll];omega)]
def Ins(base:Nat)(x:gF)(X:List gF)(o:Option Nat)(w:World)(e:Ending)(w':World):Prop:=∃v',e=.returned v'/\dE base (x::X) v' w'/\w.grownBy w' o
theorem zLf(base:Nat)(x:gF)(a:Option Addr)(c vb:Nat)(w:World)(pP:base<=w.heap.size)(hs:dE base [] (.slice a 0 c) w)(hv:w.heap[vb]?=some (.cells #[.int .i64 x.1,fT x] 186 (0,0))):
  Calls Tryz.prog 118 #[.slice a 0 c,.int .i64 0,.slice (some ⟨vb,0,none⟩) 1 1] w (Ins base x [] (Value.slice a 0 c).ownBlock w):=by
 obtain⟨i0,hi,hz0,hz1,hz2⟩:=info_parts yx;have HO:=af (show w.ownsRow base 186 2 (.slice a 0 c) 0 []from hs)
 have HN:=af (show∀(j:Nat) (u:Value),(lc x)[j]?=some u->w.cell? ((⟨vb,0,none⟩:Addr).add j)=some u from fun j u hj=>by
  rw[WideShapes.add_plain,Nat.zero_add];unfold World.cell?;simp only[hv]
  simpa[lc]using hj)
 have HB:=af (fun v (w2:World) (h1:w2.ownsRow base 186 2 v (0+1) ([]++lc x)) (h2:w.grownBy w2 (Value.slice a 0 c).ownBlock)=>show Ins base x [] (Value.slice a 0 c).ownBlock w (.returned v) w2 from⟨v,rfl,by simpa[dE]using h1,h2⟩);have HL:=af (NZ x);clear hs hv;go_enter Tryz.func118,Tryz.ntmps118;go_wp2_with (at_builtin;refine wpList_append_own_at _ rfl _ _ 145 rfl base 186 i0 (.agg #[.int .i64 0,.slice none 0 0]) 2 32 Tryz.underlying145 hi hz0 hz1 hz2 rfl (by decide) _ _ _ rfl HO.out ⟨vb,0,none⟩ 1 1 (lc x) rfl rfl HN.out HL.out (by unfold maxLen;omega) (by omega) pP ?_;intro v' w2 hown2 hg2 _ _;have HE:=af (HB.out v' w2 hown2 hg2);clear hown2 hg2);go_ret;exact HE.out
theorem zJM(base:Nat)(x:gF)(X:List gF)(n g c vb:Nat)(cur:Array Value)(w:World)(hX:X.length=n)(h0:0<n)(hl:n<=200000)(pP:base<=w.heap.size)(hg:w.heap[g]?=some (.cells cur 186 (0,0)))
  (htk:cur.toList.take (n*2)=X.flatMap lc) (hnc:n<=c) (hroom:c<n+1) (hv:w.heap[vb]?=some (.cells #[.int .i64 x.1,fT x] 186 (0,0))):
  Calls Tryz.prog 118 #[.slice (some ⟨g,0,none⟩) n c,.int .i64 0,.slice (some ⟨vb,0,none⟩) 1 1] w (Ins base x X (some g) w):=by
 obtain⟨i0,hi,hz0,hz1,hz2⟩:=info_parts yx;have hsz:(Tryz.prog.info? 186).map (·.size)=some 2:=by rw[hi];simp[hz1]
 have Kh:g<w.heap.size:=(Array.getElem?_eq_some_iff.1 hg).1;have hvw:vb<w.heap.size:=(Array.getElem?_eq_some_iff.1 hv).1;have oY:=mC X;rw[hX]at oY
 have hold:(Builtin.firstCells i0.size 0 (.slice (some ⟨g,0,none⟩) 0 c)).run Tryz.prog w.drew=.ok (([]:List Value)).toArray w.drew:=by
  rw[hz1];exact run_firstCells_some w.drew 2 0 ⟨g,0,none⟩ 0 c [] rfl (fun j v hj=>by cases hj)
 have Gj:∀ty,(Builtin.append_ #[145,3] ty #[.slice (some ⟨g,0,none⟩) 0 c,.int .i64 ((n:Int)+1)]).run Tryz.prog w=
   .ok (.slice (some ⟨w.heap.size,0,none⟩) (n+1) (grownCap w (n+1) c 186)) (w.drew.alloc (.cells (Builtin.zeroCells (Value.agg #[.int .i64 0,.slice none 0 0]).cells (n+1)++Builtin.zeroCells (Value.agg #[.int .i64 0,.slice none 0 0]).cells (grownCap w (n+1) c 186-(n+1))) 186)):=fun ty=>by
  have h:=Lib.run_append_grow_zeros w 145 3 ty 186 i0 _ .i64 .i64 Tryz.underlying145 Tryz.underlying3 hi hz0 (some ⟨g,0,none⟩) 0 c [] hold (n+1) (by omega) (by omega) (by omega) (by omega) (by rw[hz2];omega) (by rw[hz2,Nat.zero_add];exact growslice_fits (by omega) (by omega));rw[Nat.zero_add]at h
  simpa using h
 obtain⟨G,hG⟩:∃G,G=grownCap w (n+1) c 186:=⟨_,rfl⟩;obtain⟨ROW,xz⟩:∃ROW:Array Value,ROW=Builtin.zeroCells (Value.agg #[.int .i64 0,.slice none 0 0]).cells (n+1)++Builtin.zeroCells (Value.agg #[.int .i64 0,.slice none 0 0]).cells (G-(n+1)):=⟨_,rfl⟩;rw[←hG]at Gj;rw[←xz]at Gj;have hGn:n+1<=G:=by rw[hG];exact grownCap_ge w _ _ _
 have A8:G<=maxLen:=by rw[hG];exact grownCap_le_maxLen w (n+1) c _ (by unfold maxLen;omega)
 have Bf:ROW.size=G*2:=by
  rw[xz];simp[Builtin.zeroCells,Value.cells];omega
 have Ge:=zTo ROW x X (by rw[Bf,hX];omega)
 have Bw:∀(W:World),W.heap[w.heap.size]?=some (.cells ROW 186 (0,0))->W.heap[vb]?=some (.cells #[.int .i64 x.1,fT x] 186 (0,0))->∀ty,(Builtin.copy_ #[145,145] ty #[.slice (some ⟨w.heap.size,0,none⟩) (n+1) G,.slice (some ⟨vb,0,none⟩) 1 1]).run Tryz.prog W=
   .ok (goInt 1) (W.setRow w.heap.size (ROW.toList.take 0++lc x++ROW.toList.drop (0+(lc x).length)).toArray):=fun W hW hWv ty=>by
  have h:=Gv (P:=Tryz.prog) W 145 145 ty 186 w.heap.size 0 (n+1) G ⟨vb,0,none⟩ 1 1 2 ROW 186 (lc x) Tryz.underlying145 hsz hW (by rw[show Nat.min 1 (n+1)=1 by simp];rfl) (fun j v hj=>by
    rw[WideShapes.add_plain,Nat.zero_add];unfold World.cell?;simp only[hWv]
    simpa[lc]using hj) (by rw[Bf];simp only[rz];omega) (NZ x)
  rw[show Nat.min 1 (n+1)=1 by simp]at h;exact h
 have Bz:∀(R1:Array Value) (W:World),R1.size=G*2->W.heap[w.heap.size]?=some (.cells R1 186 (0,0))->W.heap[g]?=some (.cells cur 186 (0,0))->∀ty,(Builtin.copy_ #[145,145] ty #[.slice (some ⟨w.heap.size,2,none⟩) n (G-1),.slice (some ⟨g,0,none⟩) n c]).run Tryz.prog W=
   .ok (goInt n) (W.setRow w.heap.size (R1.toList.take 2++X.flatMap lc++R1.toList.drop (2+(X.flatMap lc).length)).toArray):=fun R1 W hR hW hWg ty=>by
  have h:=Gv (P:=Tryz.prog) W 145 145 ty 186 w.heap.size 2 n (G-1) ⟨g,0,none⟩ n c 2 R1 186 (X.flatMap lc) Tryz.underlying145 hsz hW (by rw[show Nat.min n n=n from Nat.min_self n,oY]) (fun j v hj=>by
    rw[WideShapes.add_plain,Nat.zero_add];unfold World.cell?;simp only[hWg];rw[←htk]at hj;have:=List.getElem?_take (l:=cur.toList) (i:=n*2) (j:=j);rw[this]at hj;split at hj
    ·simpa using hj
    ·cases hj) (by rw[hR,oY];omega) (z8 X)
  rw[show Nat.min n n=n from Nat.min_self n]at h;exact h
 have hz3:(c:Int)<(n:Int)+1:=by omega
 have hz4:¬((n:Int)=0):=by omega
 have hz5:¬(0=(n:Int)):=by omega
 have hG0:¬(G=0):=by omega
 have JU:¬(G=1):=by omega
 have hc0:¬(c=0):=by omega
 have hb1:(0:Int)<=(n:Int)+1:=by omega
 have hb2:(1:Int)<=(n:Int)+1:=by omega
 have htn:((n:Int)+1).toNat=n+1:=by omega
 have hw1:IntKind.i64.wrap ((n:Int)+1)=(n:Int)+1:=by rw[IntKind.wrap_i64];omega
 have mixed:Tryz.prog.follows .mixedOrders=true:=by kernel_rfl
 have hw0:IntKind.i64.wrap 1=1:=by rw[IntKind.wrap_i64];omega
 have EN:=af (show∀w3:World,w3.heap[w.heap.size]?=some (.cells (((ROW.toList.take 0++lc x++ROW.toList.drop (0+(lc x).length)).toArray.toList.take 2++X.flatMap lc++(ROW.toList.take 0++lc x++ROW.toList.drop (0+(lc x).length)).toArray.toList.drop (2+(X.flatMap lc).length)).toArray) 186 (0,0))->w.grownBy w3 (some g)->Ins base x X (some g) w (.returned (.slice (some ⟨w.heap.size,0,none⟩) (n+1) G)) w3 from fun w3 h1 h2=>by
  refine⟨_,rfl,⟨by rw[mC],.inr ⟨w.heap.size,G,_,by rw[List.length_cons,hX],pP,h1,by rw[List.length_cons,hX];exact hGn,A8,?_,?_⟩⟩,h2⟩
  ·rw[Ge.2.1,Bf]
  ·exact Ge.2.2)
 have H1:=af (show∀W:World,W.heap=(w.alloc (.cells ROW 186)).heap->W.heap[w.heap.size]?=some (.cells ROW 186 (0,0))from fun W e=>by rw[e];exact World.alloc_heap_new w _);have H2:=af (show∀W:World,W.heap=(w.alloc (.cells ROW 186)).heap->W.heap[vb]?=some (.cells #[.int .i64 x.1,fT x] 186 (0,0))from fun W e=>by rw[e];exact(Below.heap_alloc w _ vb hvw).trans hv);have H3:=af (show∀W:World,W.heap=(w.alloc (.cells ROW 186)).heap->W.heap[g]?=some (.cells cur 186 (0,0))from fun W e=>by rw[e];exact(Below.heap_alloc w _ g Kh).trans hg);have HZ:=af Gj;obtain⟨R1,vk⟩:∃R1,R1=(ROW.toList.take 0++lc x++ROW.toList.drop (0+(lc x).length)).toArray:=⟨_,rfl⟩;obtain⟨R2,J5⟩:∃R2,R2=(R1.toList.take 2++X.flatMap lc++R1.toList.drop (2+(X.flatMap lc).length)).toArray:=⟨_,rfl⟩;have Qx:=(fun ty=>Bw ((w.alloc (.cells ROW 186)).drew) (H1.out _ rfl) (H2.out _ rfl) ty);have mZ:=af (fun ty=>Bz R1 (((w.alloc (.cells ROW 186)).drew.setRow w.heap.size R1).drew) (by rw[vk,Ge.1,Bf]) (setRow_heap _ _ ROW _ _ _ (H1.out _ rfl)) ((setRow_other _ _ g _ (by omega)).trans (H3.out _ rfl)) ty);rw[←vk]at Qx;rw[←J5]at mZ;rw[←vk,←J5]at EN
 have EE:=af (EN.out ((((w.alloc (.cells ROW 186)).drew.setRow w.heap.size R1).drew).setRow w.heap.size R2) (setRow_heap _ _ R1 _ _ _ (setRow_heap _ _ ROW _ _ _ (H1.out ((w.alloc (.cells ROW 186)).drew) rfl)))
  ⟨rfl,rfl,rfl,by simp[World.setRow],fun k hk1 hk2=>(setRow_other _ _ k _ (by omega)).trans ((setRow_other _ _ k _ (by omega)).trans (Below.heap_alloc w _ k hk1))⟩)
 clear hG xz hold hg hv htk oY hl Gj Bw Bz Ge hsz hX hz0 hz1 hz2 hi pP A8 Bf vk J5 EN H1 H2 H3;go_enter Tryz.func118,Tryz.ntmps118
 go_upto_region 11 with(first
  |(at_builtin;refine Lib.wpList_append_run _ rfl _ _ _ _ rfl _ _ rfl rfl _ _ (HZ.out _) ?_)
  |fail)
 go_region_law_o (refine step_copy_runI rfl _ _ 145 145 rfl (.slice (some ⟨w.heap.size,2,none⟩) n (G-1)) (.slice (some ⟨g,0,none⟩) n c) (by simp[Act.eval,Act.put]) (by simp[Act.eval,Act.put]) (mZ.out _) ?_);go_wp2;go_ret;exact EE.out
theorem zJN(base:Nat)(x:gF)(X:List gF)(n g c vb:Nat)(cur:Array Value)(w:World)(hX:X.length=n)(h0:0<n)(hl:n<=200000)(hbg:base<=g)(hg:w.heap[g]?=some (.cells cur 186 (0,0)))
  (hcs:cur.size=c*2) (htk:cur.toList.take (n*2)=X.flatMap lc) (hroom:n+1<=c) (Br:c<=maxLen) (hne:vb≠g) (hv:w.heap[vb]?=some (.cells #[.int .i64 x.1,fT x] 186 (0,0))):
  Calls Tryz.prog 118 #[.slice (some ⟨g,0,none⟩) n c,.int .i64 0,.slice (some ⟨vb,0,none⟩) 1 1] w (Ins base x X (some g) w):=by
 obtain⟨i0,hi,hz0,hz1,hz2⟩:=info_parts yx;have hsz:(Tryz.prog.info? 186).map (·.size)=some 2:=by rw[hi];simp[hz1]
 have oY:=mC X;rw[hX]at oY;have hir:=zTZ cur x X (by rw[hcs,hX];omega);obtain⟨C1,A4⟩:∃C1,C1=(cur.toList.take 2++X.flatMap lc++cur.toList.drop (2+(X.flatMap lc).length)).toArray:=⟨_,rfl⟩;obtain⟨C2,vd⟩:∃C2,C2=(C1.toList.take 0++lc x++C1.toList.drop (0+(lc x).length)).toArray:=⟨_,rfl⟩;have BP:C2.size=cur.size:=by rw[vd,A4];exact hir.1
 have BV:C2.toList.take ((X.length+1)*2)=(x::X).flatMap lc:=by rw[vd,A4];exact hir.2
 have A5:C1.size=cur.size:=by
  rw[A4];simp only[List.size_toArray,List.length_append,List.length_take,List.length_drop,Array.length_toList,oY];omega
 have hov:∀cb,(callFunc 145 #[.slice (some ⟨vb,0,none⟩) 1 1,.slice (some ⟨g,2,none⟩) n cb]).run Tryz.prog w=.ok (.value (.bool false)) w:=fun cb=>by
  rw[run_callFunc_extern Tryz.func145 (by kernel_rfl) (by kernel_rfl) (by kernel_rfl) (e:=Extern.SlicesOverlaps.overlaps #[145,145] #[4]) (by kernel_rfl),
   Lib.run_overlaps_apart w 145 4 186 Tryz.underlying145 2 Tryz.sizeOf186 ⟨vb,0,none⟩ ⟨g,2,none⟩ 1 1 n cb hne 186 186 2 cur.size (by simp[World.shape?,hv]) (by simp[World.shape?,hg]) (by omega) (fp hv) (fp hv)]
  rfl
 have mZ:=af (show∀ty,(Builtin.copy_ #[145,145] ty #[.slice (some ⟨g,2,none⟩) n (c-1),.slice (some ⟨g,0,none⟩) (n+1) c]).run Tryz.prog w.drew=.ok (goInt n) (w.drew.setRow g C1)from fun ty=>by
  have h:=Gv (P:=Tryz.prog) w.drew 145 145 ty 186 g 2 n (c-1) ⟨g,0,none⟩ (n+1) c 2 cur 186 (X.flatMap lc) Tryz.underlying145 hsz hg (by rw[show Nat.min (n+1) n=n from Nat.min_eq_right (by omega),oY]) (fun j v hj=>by
    rw[WideShapes.add_plain,Nat.zero_add];show w.cell? _= _;unfold World.cell?;simp only[hg];rw[←htk]at hj;have:=List.getElem?_take (l:=cur.toList) (i:=n*2) (j:=j);rw[this]at hj;split at hj
    ·simpa using hj
    ·cases hj) (by rw[hcs,oY];omega) (z8 X)
  rw[show Nat.min (n+1) n=n from Nat.min_eq_right (by omega),←A4]at h
  exact h)
 have Qx:∀ty,(Builtin.copy_ #[145,145] ty #[.slice (some ⟨g,0,none⟩) (n+1) c,.slice (some ⟨vb,0,none⟩) 1 1]).run Tryz.prog (w.drew.setRow g C1)=.ok (goInt 1) ((w.drew.setRow g C1).setRow g C2):=fun ty=>by
  have hgg:(w.drew.setRow g C1).heap[g]?=some (.cells C1 186 (0,0)):=setRow_heap _ _ cur _ _ _ hg;have hvv:(w.drew.setRow g C1).heap[vb]?=some (.cells #[.int .i64 x.1,fT x] 186 (0,0)):=(setRow_other _ _ vb _ hne).trans hv
  have h:=Gv (P:=Tryz.prog) (w.drew.setRow g C1) 145 145 ty 186 g 0 (n+1) c ⟨vb,0,none⟩ 1 1 2 C1 186 (lc x) Tryz.underlying145 hsz hgg (by rw[show Nat.min 1 (n+1)=1 by simp];rfl) (fun j v hj=>by
    rw[WideShapes.add_plain,Nat.zero_add];unfold World.cell?;simp only[hvv]
    simpa[lc]using hj) (by rw[A5,hcs];simp only[rz];omega) (NZ x)
  rw[show Nat.min 1 (n+1)=1 by simp,←vd]at h;exact h
 have hz3:¬((c:Int)<(n:Int)+1):=by omega
 have hz4:¬((n:Int)=0):=by omega
 have hz5:¬(0=(n:Int)):=by omega
 have hb1:(0:Int)<=(n:Int)+1:=by omega
 have hb2:(1:Int)<=(n:Int)+1:=by omega
 have hb3:(n:Int)+1<=(c:Int):=by omega
 have hc0:¬(c=0):=by omega
 have hc1:¬(c=1):=by omega
 have htn:((n:Int)+1).toNat=n+1:=by omega
 have hw1:IntKind.i64.wrap ((n:Int)+1)=(n:Int)+1:=by rw[IntKind.wrap_i64];omega
 have mixed:Tryz.prog.follows .mixedOrders=true:=by kernel_rfl
 have hw0:IntKind.i64.wrap 1=1:=by rw[IntKind.wrap_i64];omega
 have EE:=af (show Ins base x X (some g) w (.returned (.slice (some ⟨g,0,none⟩) (n+1) c)) ((w.drew.setRow g C1).setRow g C2)from
  ⟨_,rfl,⟨by rw[mC],.inr ⟨g,c,_,by rw[List.length_cons,hX],hbg,setRow_heap _ _ C1 _ _ _ (setRow_heap _ _ cur _ _ _ hg),by rw[List.length_cons,hX];exact hroom,Br,by rw[BP,hcs],BV⟩⟩,
   ⟨rfl,rfl,rfl,by simp[World.setRow],fun k hk1 hk2=>(setRow_other _ _ k _ (fun e=>hk2 (by rw[e]))).trans (setRow_other _ _ k _ (fun e=>hk2 (by rw[e])))⟩⟩)
 clear hg hv htk oY hl hir BP BV A4 vd A5 hsz hX hz0 hz1 hz2 hi hcs Br;go_enter Tryz.func118,Tryz.ntmps118;go_wp2_with (simp only[hov]);go_region_law_o (refine step_copy_runI rfl _ _ 145 145 rfl (.slice (some ⟨g,2,none⟩) n (c-1)) (.slice (some ⟨g,0,none⟩) (n+1) c) (by simp[Act.eval,Act.put]) (by simp[Act.eval,Act.put]) (mZ.out _) ?_);go_wp2;go_ret;exact EE.out
theorem zLe(base)(x)(X)(s)(vb)(w)(pP:base<=w.heap.size)(hs:dE base X s w)(hl:X.length<=200000)(hne:s.ownBlock≠some vb)(hv:w.heap[vb]?=some (.cells #[.int .i64 x.1,fT x] 186 (0,0))):
  Calls Tryz.prog 118 #[s,.int .i64 0,.slice (some ⟨vb,0,none⟩) 1 1] w (Ins base x X s.ownBlock w):=by
 cases X with
 |nil=>
  obtain⟨a,c,rfl⟩:=Rw.cu hs;exact zLf base x a c vb w pP hs hv
 |cons y Y=>
  rcases hs.2 with⟨_,h⟩|⟨g,cap,cur,rfl,hb,hg,hn,hc,hsz,htk⟩
  ·cases h
  ·by_cases hr:cap<(y::Y).length+1
   ·exact zJM base x (y::Y) _ g cap vb cur w rfl (by simp) hl pP hg htk hn hr hv
   ·exact zJN base x (y::Y) _ g cap vb cur w rfl (by simp) hl hb hg hsz htk (by omega) hc (fun e=>hne (by rw[e];rfl)) hv
end Ac
namespace Ac
open Gr (cell_later boxed)
open Lk (gF fT lc rz mC dE yx bD lS)
def Ty(b:Nat)(T:TypeId)(w:World):Prop:=∃cur fz,w.heap[b]?=some (.cells cur T fz)
theorem Ty.went{b}{T}{w w'}(h:Ty b T w)(hb:Below w.heap.size w w'):Ty b T w':=by
 obtain⟨cur,fz,h⟩:=h;exact⟨cur,fz,(hb.block b (Array.getElem?_eq_some_iff.1 h).1).trans h⟩
theorem Ty.kept{b g}{T U}{w w'}(h:Ty b T w)(hg:Ty g U w)(hne:T≠U)(h2:w.grownBy w' (some g)):w'.heap[b]?=w.heap[b]?:=by
 obtain⟨cur,fz,h⟩:=h;obtain⟨AP,fz2,hg⟩:=hg;refine h2.block b (Array.getElem?_eq_some_iff.1 h).1 fun e=>?_
 injection e with e
 subst e;rw[h]at hg;injection hg with hg
 injection hg with _ hg _
 exact hne hg
theorem Ty.kept'{b g}{T U}{w w'}(h:Ty b T w)(hg:Ty g U w)(hne:T≠U)(h2:w.grownBy w' (some g)):Ty b T w':=by
 have e:=h.kept hg hne h2;obtain⟨cur,fz,h⟩:=h;exact⟨cur,fz,e.trans h⟩
def dO(a:Option Addr)(Y:List (Nat×List Nat))(w:World):Prop:=
 ∀k (h:k<Y.length),∃b a3 c3,a=some ⟨b,0,none⟩/\w.cell? ⟨b,k*2,none⟩=some (.int .i64 (Y[k].1:Int))/\w.cell? ⟨b,k*2+1,none⟩=some (.slice a3 Y[k].2.length c3)/\Sep.Reads a3 (bD Y[k].2) w/\Ty b 186 w/\(∀b3 o,a3=some ⟨b3,o,none⟩->0<Y[k].2.length->Ty b3 3 w)
theorem dO.reads{a}{Y}{w}(h:dO a Y w):lS a Y w:=fun k hk=>by
 obtain⟨b,a3,c3,h1,h2,h3,h4,_⟩:=h k hk;exact⟨b,a3,c3,h1,h2,h3,h4⟩
theorem dO.went{a}{Y}{w w'}(h:dO a Y w)(hb:Below w.heap.size w w'):dO a Y w':=fun k hk=>by
 obtain⟨b,a3,c3,h1,h2,h3,h4,h5,h6⟩:=h k hk;exact⟨b,a3,c3,h1,cell_later hb h2,cell_later hb h3,h4.below hb (Nat.le_refl _),h5.went hb,fun b3 o e n=>(h6 b3 o e n).went hb⟩
theorem dO.kept{a}{Y}{w w'}{g}{U}(h:dO a Y w)(hg:Ty g U w)(hne:186≠U)(hni:3≠U)(h2:w.grownBy w' (some g)):dO a Y w':=fun k hk=>by
 obtain⟨b,a3,c3,h1,h3,h4,h5,h6,h7⟩:=h k hk;have e:=h6.kept hg hne h2
 have ec:∀o,w'.cell? ⟨b,o,none⟩=w.cell? ⟨b,o,none⟩:=fun o=>by
  unfold World.cell?;rw[show w'.heap[(⟨b,o,none⟩:Addr).block]?=w.heap[(⟨b,o,none⟩:Addr).block]? from e]
 refine⟨b,a3,c3,h1,(ec _).trans h3,(ec _).trans h4,fun i hi=>?_,h6.kept' hg hne h2,fun b3 o e3 n=>(h7 b3 o e3 n).kept' hg hni h2⟩;obtain⟨b3,o3,e3,e4⟩:=h5 i hi;refine⟨b3,o3,e3,?_⟩;have e5:=(h7 b3 o3 e3 (by simp only[bD,List.length_map]at hi;omega)).kept hg hni h2;rw[←e4];unfold World.cell?;rw[show w'.heap[(⟨b3,o3+i,none⟩:Addr).block]?=w.heap[(⟨b3,o3+i,none⟩:Addr).block]? from e5]
def qh(X:List gF)(Y:List (Nat×List Nat))(w:World):Prop:=
 X.length=Y.length/\∀k (h:k<X.length) (h':k<Y.length),X[k].1=(Y[k].1:Int)/\X[k].2.2.1=Y[k].2.length/\Sep.Reads X[k].2.1 (bD Y[k].2) w/\(∀b3 o,X[k].2.1=some ⟨b3,o,none⟩->0<Y[k].2.length->Ty b3 3 w)
theorem qh.went{X}{Y}{w w'}(h:qh X Y w)(hb:Below w.heap.size w w'):qh X Y w':=
 ⟨h.1,fun k a b=>⟨(h.2 k a b).1,(h.2 k a b).2.1,(h.2 k a b).2.2.1.below hb (Nat.le_refl _),fun b3 o e n=>((h.2 k a b).2.2.2 b3 o e n).went hb⟩⟩
theorem zTC{a}{Y}{w}(h:dO a Y w):∃X,qh X Y w/\Sep.Reads a (X.flatMap lc) w:=by
 have h1:∀k:Fin Y.length,∃x:gF,x.1=(Y[k.1].1:Int)/\x.2.2.1=Y[k.1].2.length/\Sep.Reads x.2.1 (bD Y[k.1].2) w/\(∀b3 o,x.2.1=some ⟨b3,o,none⟩->0<Y[k.1].2.length->Ty b3 3 w)/\∃b,a=some ⟨b,0,none⟩/\w.cell? ⟨b,k.1*2,none⟩=some (.int .i64 x.1)/\w.cell? ⟨b,k.1*2+1,none⟩=some (fT x):=fun k=>by
  obtain⟨b,a3,c3,e1,e2,e3,e4,_,e6⟩:=h k.1 k.2;exact⟨((Y[k.1].1:Int),a3,Y[k.1].2.length,c3),rfl,rfl,e4,e6,b,e1,e2,e3⟩
 obtain⟨f,hf⟩:=Classical.axiomOfChoice h1;have hl0:(List.ofFn f).length=Y.length:=List.length_ofFn;have hx:∀k (hk:k<Y.length),(List.ofFn f)[k]'(by rw[hl0];exact hk)=f ⟨k,hk⟩:=fun k hk=>by simp
 refine⟨List.ofFn f,⟨hl0,fun k hk hk'=>?_⟩,fun j hj=>?_⟩
 ·rw[hx k hk'];exact⟨(hf ⟨k,hk'⟩).1,(hf ⟨k,hk'⟩).2.1,(hf ⟨k,hk'⟩).2.2.1,(hf ⟨k,hk'⟩).2.2.2.1⟩
 ·have hl:=mC (List.ofFn f)
  have ki:j / 2<Y.length:=by
   rw[hl,hl0]at hj;omega
  have e1:=Rw.mE lc rz (List.ofFn f) (j / 2) (by rw[hl0];exact ki) (j % 2) (by omega);rw[show j / 2*2+j % 2=j by omega,hx (j / 2) ki,List.getElem?_eq_getElem hj]at e1;obtain⟨_,_,_,_,b,h2,h3,h4⟩:=hf ⟨j / 2,ki⟩;refine⟨b,0,h2,?_⟩;rw[Nat.zero_add,e1];rcases Nat.mod_two_eq_zero_or_one j with h6|h6
  ·rw[h6];have h7:w.cell? ⟨b,j,none⟩=w.cell? ⟨b,j / 2*2,none⟩:=by rw[show j / 2*2=j by omega]
   rw[h7];exact h3
  ·rw[h6];have h7:w.cell? ⟨b,j,none⟩=w.cell? ⟨b,j / 2*2+1,none⟩:=by rw[show j / 2*2+1=j by omega]
   rw[h7];exact h4
theorem XJ{base}{X}{Y}{v}{w}(h:dE base X v w)(hX:qh X Y w):∃a c,v=.slice a Y.length c/\dO a Y w:=by
 obtain⟨a,c,e⟩:=Rw.cu h;refine⟨a,c,by rw[e,hX.1],fun k hk=>?_⟩;have hk':k<X.length:=by rw[hX.1];exact hk
 rw[e]at h;obtain⟨b,rfl⟩:=Lk.sw h (by omega)
 have hty:Ty b 186 w:=by
  rcases h.2 with⟨h0,_⟩|⟨g,cap,cur,h0,_,h1,_⟩
  ·cases h0
  ·simp only[Value.slice.injEq,Option.some.injEq,Addr.mk.injEq,and_true]at h0;obtain⟨rfl,_⟩:=h0;exact⟨cur,_,h1⟩
 have rd:=World.ownsRow.cells h (g:=b) rfl;have t0:=rd (k*2+0) _ (by rw[Rw.mE lc rz X k hk' 0 (by omega)];rfl);have t1:=rd (k*2+1) _ (by rw[Rw.mE lc rz X k hk' 1 (by omega)];rfl);rw[WideShapes.add_plain]at t0 t1;obtain⟨h1,h2,h3,h4⟩:=hX.2 k hk' hk;exact⟨b,X[k].2.1,X[k].2.2.2,rfl,by rw[←h1];simpa using t0,by rw[←h2];simpa[fT]using t1,h3,hty,h4⟩
theorem zU3{base}{Y}{v}{w}(h:Lk.fJ base Y v w):∃a c,v=.slice a Y.length c/\dO a Y w/\Y.length<=c:=by
 obtain⟨X,h1,h2,h3⟩:=h;have hl:X.length=Y.length:=Lk.Xv h2
 obtain⟨a,c,e,hE⟩:=XJ (Y:=Y) h1 ⟨hl,fun k hk hk'=>by
  have h4:(X.map (·.1))[k]?=(Y.map fun y=>(y.1:Int))[k]?:=by rw[h2]
  rw[List.getElem?_map,List.getElem?_map,List.getElem?_eq_getElem hk,List.getElem?_eq_getElem hk']at h4;injection h4 with h4
  have h5:=h3 k hk hk'
  have e2:X[k].2.2.1=Y[k].2.length:=by
   obtain⟨a',c',e⟩:=Rw.cu h5;unfold fT at e;simp only[Value.slice.injEq]at e;exact e.2.1
  have h6:=h5;unfold Lk.E8 fT at h6;rw[e2]at h6;refine⟨h4,e2,Sep.Reads.dQ h6,fun b3 o e3 n=>?_⟩;rcases h6.2 with⟨h0,_⟩|⟨g,cap,cur,h0,_,h7,_⟩
  ·rw[e3]at h0;cases h0
  ·rw[e3]at h0;simp only[Value.slice.injEq,Option.some.injEq,Addr.mk.injEq,and_true]at h0;obtain⟨⟨rfl,_⟩,_⟩:=h0
   exact⟨cur,_,h7⟩⟩
 refine⟨a,c,e,hE,?_⟩;rcases h1.2 with⟨h0,h8⟩|⟨g,cap,cur,h0,_,_,h8,_⟩
 ·omega
 ·rw[h0]at e;simp only[Value.slice.injEq]at e;omega
def Yv(X:List gF)(w:World)(e:Ending)(w':World):Prop:=∃a c,e=.returned (.slice a X.length c)/\dE w.heap.size X (.slice a X.length c) w'/\Below w.heap.size w w'
theorem zF2(w):(Instr.buildSlice 145 0 #[]).run Tryz.prog w=.ok (.slice (some ⟨w.heap.size,0,none⟩) 0 0) (w.alloc (.cells #[] 186)):=by kernel_rfl
theorem zMv(a:Option Addr)(l:List gF)(c:Nat)(w:World)(h:Sep.Reads a (l.flatMap lc) w)(hl:l.length<=1000000):
  Calls Tryz.prog 119 #[.slice a l.length c] w (Yv l w):=by
 obtain⟨i0,hi,hz0,hz1,hz2⟩:=info_parts yx;cases a with
 |none=>
  have h0:l=[]:=by
   rcases l with _|⟨x,l⟩
   ·rfl
   ·obtain⟨_,_,e,_⟩:=h 0 (by rw[mC];simp);cases e
  subst h0;have hn:=Lib.run_eql_slice_nil (P:=Tryz.prog);go_enter Tryz.func119,Tryz.ntmps119;go_wp2;go_ret;exact⟨Option.none,_,rfl,World.ownsRow_nil _ _ _ _,.refl _ _⟩
 |some x=>
  have HB:=af (fun v (w1 w2:World) (h1:w2.ownsRow w.heap.size 186 2 v (0+l.length) ([]++l.flatMap lc)) (h2:(w.alloc (.cells #[] 186)).grownBy w2 (some w.heap.size))=>show Yv l w (.returned v) w2 from by
   rw[Nat.zero_add,List.nil_append]at h1;obtain⟨a',c',rfl⟩:=Rw.cu h1
   exact⟨a',c',rfl,h1,((Below.refl _ _).alloc (Nat.le_refl _) _).grown h2 (by simp) fun k hk=>by injection hk with hk;omega⟩)
  have HO:=af (World.ownsRow_made (base:=w.heap.size) (e:=186) (size:=2) w #[] 0 (Nat.le_refl _) (by simp) (by simp));have hll:=mC l
  have HN:=af (show∀(j:Nat) (u:Value),(l.flatMap lc)[j]?=some u->(w.alloc (.cells #[] 186)).cell? (x.add j)=some u from fun j u hj=>by
   obtain⟨iU,rfl⟩:=List.getElem?_eq_some_iff.1 hj;obtain⟨b,o,e,hc⟩:=h j iU;injection e with e
   subst e;rw[WideShapes.add_plain]
   exact cell_later (boxed _ _) hc)
  have HL:=af (z8 l);clear h;have hn:=Lib.run_eql_slice_nil (P:=Tryz.prog);have hb:=zF2;go_enter Tryz.func119,Tryz.ntmps119;go_wp2_with (at_builtin;refine wpList_append_own_at _ rfl _ _ 145 rfl w.heap.size 186 i0 (.agg #[.int .i64 0,.slice none 0 0]) 2 32 Tryz.underlying145 hi hz0 hz1 hz2 rfl (by decide) _ _ _ rfl HO.out x l.length c (l.flatMap lc) rfl (by omega) HN.out HL.out (by unfold maxLen;omega) (by omega) (by simp) ?_;intro v' w2 hown2 hg2 _ _;have HE:=af (HB.out v' w w2 hown2 hg2);clear hown2 hg2);go_ret;exact HE.out
def yK(n:Nat)(Y:List (Nat×List Nat))(w:World)(e:Ending)(w':World):Prop:=∃a c,e=.returned (.slice a (gP n Y).length c)/\dO a (gP n Y) w'/\Below w.heap.size w w'
theorem UM{n}{Y}{w w'}{e}(h:yK n Y w e w'):Below w.heap.size w w':=by
 obtain⟨_,_,_,_,h⟩:=h;exact h
theorem zQd{w:World}{o}{g}(h:(w.alloc o).drew.heap.size<=g):w.heap.size+1<=g:=by
 have e:(w.alloc o).drew.heap.size=w.heap.size+1:=World.size_alloc _ _
 rwa [e]at h
theorem kept_alloc{w wa:World}{cs}{T}(h:Below (w.alloc (.cells cs T)).drew.heap.size (w.alloc (.cells cs T)).drew wa):wa.heap[w.heap.size]?=some (.cells cs T (0,0)):=
 (h.block w.heap.size (by
  have e:(w.alloc (.cells cs T)).drew.heap.size=w.heap.size+1:=World.size_alloc _ _;rw[e]
  exact Nat.lt_succ_self _)).trans (World.alloc_heap_new w _)
theorem zSq(n:Nat)(a:Option Addr)(Y:List (Nat×List Nat))(c:Nat)(w:World)(h:dO a Y w)(hl:Y.length<=200000)(hc:Y.length<=c):
  Calls Tryz.prog 95 #[.slice a Y.length c,.int .i64 (n:Int)] w (yK n Y w):=by
 rcases hY:Y.length with _|k
 ·have h0:Y=[]:=List.length_eq_zero_iff.1 hY;subst h0;have EN:=af (show yK n [] w (.returned (.slice a 0 c)) w from⟨a,c,rfl,h,.refl _ _⟩);clear h hY;go_enter Tryz.func95,Tryz.ntmps95;go_wp2;go_ret;exact EN.out
 ·have hk:k<Y.length:=by omega
  have hlast:Y.getLast?=some Y[k]:=by
   rw[List.getLast?_eq_getElem?,List.getElem?_eq_getElem (by omega)]
   congr 2
   omega
  obtain⟨b,a3,c3,rfl,t0,t1,t2,_⟩:=h k hk;have hw1:IntKind.i64.wrap (k:Int)=(k:Int):=by rw[IntKind.wrap_i64];omega
  have hd0:decide ((k:Int)<0)=false:=decide_eq_false (by omega);have mixed:Tryz.prog.follows .mixedOrders=true:=by kernel_rfl
  by_cases hy:Y[k].1=n
  ·have e:gP n Y=Y[k]::Y.take k:=by
    unfold gP;rw[hlast];dsimp only;rw[if_pos hy,List.dropLast_eq_take,hY]
    rfl
   have hy':(Y[k].1:Int)=(n:Int):=by omega
   obtain⟨X,hX,hR⟩:=zTC h;have hkX:k<X.length:=by rw[hX.1];exact hk
   have mI:=af (show∀(v:Value) (w3:World),Below w.heap.size w w3->dE w.heap.size (X[k]::X.take k) v w3->yK n Y w (.returned v) w3 from fun v w3 hb hv=>by
    have Bh:=hX.went hb
    obtain⟨a',c',rfl,hE⟩:=XJ (Y:=Y[k]::Y.take k) hv ⟨by simp[hX.1],fun j h1 h2=>by
     cases j with
     |zero=>exact Bh.2 k hkX hk
     |succ j=>
      simp only[List.getElem_cons_succ,List.getElem_take]
      exact Bh.2 j (by simp at h1;omega) (by simp at h2;omega)⟩
    exact⟨a',c',by rw[e],by rw[e];exact hE,hb⟩)
   have e1:X[k].1=(Y[k].1:Int):=(hX.2 k hkX hk).1;have e2:(Y[k].1:Int)=n:=hy'
   have CL:=af (show∀w1,Below w.heap.size w w1->Calls Tryz.prog 119 #[.slice (some ⟨b,0,none⟩) k c] w1 (fun e w2=>∃a1 c1,e=.returned (.slice a1 k c1)/\dE w.heap.size (X.take k) (.slice a1 k c1) w2/\(∀g,(Value.slice a1 k c1).ownBlock=some g->w.heap.size<=g/\g<w2.heap.size)/\(∀g,(Value.slice a1 k c1).ownBlock=some g->w1.heap.size<=g)/\Below w1.heap.size w1 w2)from fun w1 hb=>by
    have iJ:(X.take k).length=k:=by simp;omega
    have h1:=zMv (some ⟨b,0,none⟩) (X.take k) c w1 (fun j hj=>by
     have ki:j<(X.flatMap lc).length:=by
      rw[mC]at hj⊢;rw[iJ]at hj;omega
     obtain⟨b',o',e3,e4⟩:=hR j ki;refine⟨b',o',e3,?_⟩;rw[cell_later hb e4]
     congr 1
     have e5:X.flatMap lc=(X.take k).flatMap lc++(X.drop k).flatMap lc:=by rw[←List.flatMap_append,List.take_append_drop]
     simp only[e5]
     rw[List.getElem_append_left hj]) (by rw[iJ];omega)
    rw[iJ]at h1;refine h1.mono ?_;rintro e w2 ⟨a1,c1,rfl,h2,h3⟩;rw[iJ]at h2⊢
    exact⟨a1,c1,rfl,Rw.su h2 hb.size,fun g hg=>⟨Nat.le_trans hb.size (World.ownsRow.lt h2 g hg).1,(World.ownsRow.lt h2 g hg).2⟩,fun g hg=>(World.ownsRow.lt h2 g hg).1,h3⟩)
   have IN:=af (show∀(v:Value) (vb:Nat) (w1:World),w.heap.size<=w1.heap.size->dE w.heap.size (X.take k) v w1->v.ownBlock≠some vb->w1.heap[vb]?=some (.cells #[.int .i64 (Y[k].1:Int),.slice a3 Y[k].2.length c3] 186 (0,0))->Calls Tryz.prog 118 #[v,.int .i64 0,.slice (some ⟨vb,0,none⟩) 1 1] w1 (Ins w.heap.size X[k] (X.take k) v.ownBlock w1)from fun v vb w1 hb hv hne hvb=>by
    refine zLe w.heap.size X[k] (X.take k) v vb w1 hb hv (by simp;omega) hne ?_
    have e3:fT X[k]=.slice a3 Y[k].2.length c3:=by
     obtain⟨b',o',e3,e4⟩:=hR (k*2+1) (by rw[mC];omega);simp only[Option.some.injEq,Addr.mk.injEq,and_true]at e3;obtain⟨rfl,rfl⟩:=e3;have e5:=Rw.mE lc rz X k hkX 1 (by omega);rw[List.getElem?_eq_getElem (by rw[mC];omega)]at e5;rw[Nat.zero_add,t1]at e4;injection e4 with e4
     rw[←e4]at e5;injection e5 with e5
     exact e5.symm
    rw[e3,e1]
    exact hvb)
   have hgb:∀{w1 w2:World} {v:Value},Below w.heap.size w w1->w1.grownBy w2 v.ownBlock->(∀g,v.ownBlock=some g->w.heap.size<=g)->Below w.heap.size w w2:=fun {w1 w2 v} hb hg hv=>hb.grown hg hb.size fun g e=>hv g e
   have ZR:=af (show∀(wa:World) (a1:Option Addr) (c1:Nat),Below w.heap.size w wa->dE w.heap.size (X.take k) (.slice a1 k c1) wa->(∀g,(Value.slice a1 k c1).ownBlock=some g->w.heap.size<=g/\g<wa.heap.size)->
     Calls Tryz.prog 118 #[.slice a1 k c1,.int .i64 0,.slice (some ⟨wa.heap.size,0,none⟩) 1 1] (wa.alloc (.cells #[.int .i64 (Y[k].1:Int),.slice a3 Y[k].2.length c3] 186)) (fun e w2=>∃v',e=.returned v'/\yK n Y w (.returned v') w2)from fun wa a1 c1 hb hv ho=>by
    refine(IN.out (.slice a1 k c1) wa.heap.size _ (by rw[World.size_alloc];have:=hb.size;omega) (Sep.bS hv fun g hg=>Below.heap_alloc wa _ g (ho g hg).2) (fun e=>by have:=(ho _ e).2;omega) (World.alloc_heap_new _ _)).mono ?_;rintro e w2 ⟨v',rfl,h2,h3⟩
    exact⟨v',rfl,mI.out v' w2 (hgb (hb.alloc hb.size _) h3 fun g e=>(ho g e).1) h2⟩)
   have ZT:=af (show∀(wa:World) (a1:Option Addr) (c1:Nat),Below w.heap.size w wa->dE w.heap.size (X.take k) (.slice a1 k c1) wa->(∀g,(Value.slice a1 k c1).ownBlock=some g->w.heap.size+1<=g)->wa.heap[w.heap.size]?=some (.cells #[.int .i64 (Y[k].1:Int),.slice a3 Y[k].2.length c3] 186 (0,0))->
     Calls Tryz.prog 118 #[.slice a1 k c1,.int .i64 0,.slice (some ⟨w.heap.size,0,none⟩) 1 1] wa (fun e w2=>∃v',e=.returned v'/\yK n Y w (.returned v') w2)from fun wa a1 c1 hb hv ho hvb=>by
    refine(IN.out (.slice a1 k c1) w.heap.size wa hb.size hv (fun e=>by have:=ho _ e;omega) hvb).mono ?_;rintro e w2 ⟨v',rfl,h2,h3⟩
    exact⟨v',rfl,mI.out v' w2 (hgb hb h3 fun g e=>by have:=ho g e;omega) h2⟩)
   clear hR hX h hlast e e1 e2 hgb IN mI;have HQ:=af (show∀w',Below w.heap.size w w'->w'.cell? ⟨b,k*2,none⟩=some (.int .i64 (Y[k].1:Int))/\w'.cell? ⟨b,k*2+1,none⟩=some (.slice a3 Y[k].2.length c3)/\Below w.heap.size w w' from fun w' hb=>⟨cell_later hb t0,cell_later hb t1,hb⟩);clear t2;have hkc:(k:Int)<=(c:Int):=by omega
   have hix:(k:Int)<(k:Int)+1:=by omega
   have hd1:((Y[k].1:Int) != (n:Int))=false:=by simpa using hy'
   have gh:=Gr.drawn w;clear hy hy';go_enter Tryz.func95,Tryz.ntmps95;go_wp2_with fail
   go_region_held3 (fun w'=>w'.cell? ⟨b,k*2,none⟩=some (.int .i64 (Y[k].1:Int))/\w'.cell? ⟨b,k*2+1,none⟩=some (.slice a3 Y[k].2.length c3)/\Below w.heap.size w w')
    (exact HQ.out _ (by first|assumption|exact Gr.step (by assumption) (Gr.boxed _ _)))
    (first
     |(go_at_call 119;((with_reducible refine(CL.out _ (by first|assumption|exact Gr.step (by assumption) (Gr.boxed _ _))).mono ?_));rintro e wa ⟨a1,c1,rfl,hv1,zq,zr,hb1⟩;have O2:=af zr;have kA:Below w.heap.size w wa:=Gr.step (by first|assumption|exact Gr.step (by assumption) (Gr.boxed _ _)) hb1;have V1:=af hv1;have O1:=af zq;have B1:=af hb1;clear hv1 zq zr hb1)
     |(go_at_call 118;((with_reducible refine(ZR.out wa a1 c1 kA V1.out O1.out).mono ?_));rintro e wb ⟨vb,rfl,hG⟩;have GG:=af hG;have kB:Below w.heap.size w wb:=UM hG;clear hG)
     |(go_at_call 118;((with_reducible refine(ZT.out wa a1 c1 kA V1.out (fun g e=>zQd (O2.out g e)) (kept_alloc B1.out)).mono ?_));rintro e wb ⟨vb,rfl,hG⟩;have GG:=af hG;have kB:Below w.heap.size w wb:=UM hG;clear hG)
     |fail)
   all_goals
    go_wp2;go_ret;exact GG.out
  ·have e:gP n Y=Y:=by
    unfold gP;rw[hlast];dsimp only;rw[if_neg hy]
   have EN:=af (show yK n Y w (.returned (.slice (some ⟨b,0,none⟩) (k+1) c)) w from⟨_,c,by rw[e,hY],by rw[e];exact h,.refl _ _⟩);have hy':¬((Y[k].1:Int)=(n:Int)):=by omega
   have hd1:((Y[k].1:Int) != (n:Int))=true:=by simpa using hy'
   clear h hlast e t2;go_enter Tryz.func95,Tryz.ntmps95;go_wp2;go_ret;exact EN.out
