/- A part of the proof. -/
import Derived.Test.YtkcaedinfnajaaaGreatDoorPk02
import Derived.Deep.AppendLies
set_option maxHeartbeats 4000000
set_option maxRecDepth 100000
set_option linter.unusedVariables false
namespace Go.Proofs.YtkcaedinfnajaaaGreatDoor
open Go.RowKit Go.Maps
namespace Gr
def zFg(L M:List Int):Bool:=decide (L=M)
def eqI(x y:Int):Bool:=decide (x=y)
theorem zNC{α:Type}{L M:List α}(h:L.length≠M.length):¬L=M:=fun e=>h (by rw[e])
def Alike{α:Type}(L M:List α)(k:Nat):Prop:=∀j (h1:j<L.length) (h2:j<M.length),j<k->L[j]=M[j]
theorem zKS{α:Type}(L M:List α):Alike L M 0:=fun _ _ _ h=>absurd h (by omega)
theorem zKR{α:Type}{L M:List α}{k:Nat}(h:Alike L M k)(h1:k<L.length)(h2:k<M.length)(e:L[k]=M[k]):Alike L M (k+1):=fun j g1 g2 hj=>by
 by_cases he:j=k
 ·subst he;exact e
 ·exact h j g1 g2 (by omega)
theorem zLx{α:Type}{L M:List α}{k:Nat}(h:Alike L M k)(hl:L.length=M.length)(hk:¬k<L.length):L=M:=List.ext_getElem hl fun i h1 h2=>h i h1 h2 (by omega)
theorem zKP{α:Type}{L M:List α}{k:Nat}(h1:k<L.length)(h2:k<M.length)(e:L[k]≠M[k]):¬L=M:=fun h=>e (by subst h;rfl)
theorem zDa{a:Option Addr}{xs:List Value}{w:World}{k n:Nat}{v:Value}(h:Sep.Reads a xs w)(hl:n=xs.length)(hk:k<n)(hv:xs[k]?=some v):∃b o,a=some ⟨b,o,none⟩/\w.cell? ⟨b,o+k,none⟩=some v:=by
 obtain⟨b,o,e,hc⟩:=h k (by omega);refine⟨b,o,e,hc.trans ?_⟩;rw[List.getElem?_eq_getElem (by omega)]at hv;exact hv
theorem zMQ(x y:Int)(w:World):Calls Tryz.prog 186 #[.int .i64 x,.int .i64 y] w fun e w'=>e=.returned (.bool (eqI x y))/\w=w':=by
 go_enter Tryz.func186,Tryz.ntmps186;go_wp2;go_ret;refine⟨zAF ?_,rfl⟩;unfold eqI;rw[Bool.eq_iff_iff];simp
theorem zT2(L M:List Int)(a b:Option Addr)(c d:Nat)(w:World)(ha:Sep.Reads a (ivs L) w)(hb:Sep.Reads b (ivs M) w)(hl:L.length<=17592186044416)(hm:M.length<=17592186044416):
  Calls Tryz.prog 185 #[.slice a L.length c,.slice b M.length d,.func (.func 186) #[] #[]] w fun e w'=>e=.returned (.bool (zFg L M))/\w=w':=by
 have HA:=zVZ ha;have HB:=zVZ hb;clear ha hb
 by_cases hlen:L.length=M.length
 ·have HL:=zVZ hlen;have hle:M.length<=L.length:=by omega
  have hle':L.length<=M.length:=by omega
  have hlb:((L.length:Int) != (M.length:Int))=false:=by simp[hlen]
  clear hlen;go_enter Tryz.func185,Tryz.ntmps185;go_wp2;go_loop [16] (fun i=>∃k:Nat,k<=L.length/\i=.int .i64 k/\Alike L M k) (fun i=>L.length-(intOf i).toNat)
  case atStart=>exact⟨0,Nat.zero_le _,rfl,zKS _ _⟩
  case round=>
   obtain⟨k,hk,rfl,hA⟩:=hrel;have A:=zVZ hA;clear hA
   by_cases hlt:k<L.length
   ·have hlm:k<M.length:=by omega
    obtain⟨b1,o1,rfl,h1⟩:=zDa (v:=.int .i64 L[k]) HA.out (by simp[ivs]) hlt (by simp[ivs,iv,hlt]);obtain⟨b2,o2,rfl,h2⟩:=zDa (v:=.int .i64 M[k]) HB.out (by simp[ivs]) hlm (by simp[ivs,iv,hlm])
    by_cases he:L[k]=M[k]
    ·have A2:=zVZ (zKR A.out hlt hlm he);have E:=zVZ (show eqI L[k] M[k]=true by simp[eqI,he]);clear he;generalize L[k]=x at h1 E;generalize M[k]=y at h2 E;go_wp2_with (go_at_call 186;refine(zMQ _ _ _).mono ?_;rw[E.out];rintro e w1 ⟨rfl,rfl⟩);go_round
     case rel=>exact⟨k+1,by omega,by go_num,A2.out⟩
     case measure=>simp[intOf];omega
    ·have F:=zVZ (show zFg L M=false by simpa[zFg]using zKP hlt hlm he);have E:=zVZ (show eqI L[k] M[k]=false by simp[eqI,he]);clear he;generalize L[k]=x at h1 E;generalize M[k]=y at h2 E;go_wp2_with (go_at_call 186;refine(zMQ _ _ _).mono ?_;rw[E.out];rintro e w1 ⟨rfl,rfl⟩);go_ret;exact⟨zAF F.out,rfl⟩
   ·have F:=zVZ (show zFg L M=true by simpa[zFg]using zLx A.out HL.out hlt);go_wp2;go_ret;exact⟨zAF F.out,rfl⟩
 ·have F:=zVZ (show zFg L M=false by simpa[zFg]using zNC hlen);have hlb:((L.length:Int) != (M.length:Int))=true:=by simpa using fun h=>hlen (by omega)
  clear hlen;go_enter Tryz.func185,Tryz.ntmps185;go_wp2;go_ret;exact⟨zAF F.out,rfl⟩
theorem zR7(L M:List Int)(a b:Option Addr)(c d:Nat)(w:World)(ha:Sep.Reads a (ivs L) w)(hb:Sep.Reads b (ivs M) w)(hl:L.length<=17592186044416)(hm:M.length<=17592186044416):
  Calls Tryz.prog 150 #[.slice a L.length c,.slice b M.length d] w fun e w'=>e=.returned (.bool (zFg L M))/\w=w':=by
 have H:=zVZ (zT2 L M a b c d w ha hb hl hm);clear ha hb;go_enter Tryz.func150,Tryz.ntmps150;go_wp2_with (go_at_call 185;refine H.out.mono ?_;rintro e w1 ⟨rfl,rfl⟩);go_ret;exact⟨rfl,rfl⟩
theorem zN1(r q:Int×List Int)(a b:Option Addr)(c d:Nat)(w:World)(ha:Sep.Reads a (ivs r.2) w)(hb:Sep.Reads b (ivs q.2) w)(hl:r.2.length<=17592186044416)(hm:q.2.length<=17592186044416):
  Calls Tryz.prog 128 #[.agg #[.int .i64 r.1,.slice a r.2.length c],.agg #[.int .i64 q.1,.slice b q.2.length d]] w (Is (.bool (zCW r q)) w):=by
 have H:=zVZ (fun w1 (k:Below w.heap.size w w1)=>zR7 r.2 q.2 a b c d w1 (ha.below k (Nat.le_refl _)) (hb.below k (Nat.le_refl _)) hl hm);have X:=zVZ (fun o1 o2=>step (boxed w o1) (boxed (w.alloc o1) o2));clear ha hb
 by_cases h1:r.1=q.1
 ·have E:=zVZ (show zCW r q=zFg r.2 q.2 by simp[zCW,h1,zFg]);rw[h1];clear h1;go_enter Tryz.func128,Tryz.ntmps128;go_wp2_with (go_at_call 150;refine(H.out _ (X.out _ _)).mono ?_;rintro e w1 ⟨rfl,rfl⟩);go_ret;exact⟨zAF E.out,X.out _ _⟩
 ·have E:=zVZ (show zCW r q=false by simp[zCW,h1]);have h2:(r.1==q.1)=false:=by simpa using h1
  clear h1;go_enter Tryz.func128,Tryz.ntmps128;go_wp2;go_ret;exact⟨zAF E.out,X.out _ _⟩
structure B2 (W:World) (h l:Sh) (G H:Gram) (w:World):Prop where
 below:Below W.heap.size W w
 b1:Box W.heap.size h G w
 b2:Box (W.heap.size+1) l H w
theorem zTF{w:World}{base n c:Nat}{e:TypeId}{a:Option Addr}{xs:List Value}(h:w.ownsRow base e 1 (.slice a n c) n xs):n<=c:=by
 rcases h.2 with⟨h1,h2⟩|⟨g,cap,cur,h1,_,_,h3,_⟩
 ·omega
 ·simp only[Value.slice.injEq]at h1;omega
theorem law:Keyed Tryz.prog 9:=string_keyed Tryz.underlying9
theorem zRD{s:ByteArray}(h:s.size<=maxLen):keyOf Tryz.prog 9 (.string s)=some (.string s.data.toList):=WideMaps.keyOf_string_mk Tryz.underlying9 h
theorem zSf{s:ByteArray}(h:s.size<=maxLen):WideAt.IsKeyLit (.string s.data.toList):=law.key (zRD h)
noncomputable abbrev zOe:Value->Option (DataW Unit×List MemPlace):=plainElem Tryz.prog 3
def Keys(L:List ByteArray)(D:DataW Unit):Prop:=
 (∀s:ByteArray,Maps.has D (.string s.data.toList)=It.isIn L s)/\Maps.size D<=L.length/\(Maps.size D=L.length↔L.Nodup)
theorem zPZ:Keys [] (.map []):=⟨fun s=>rfl,by simp[Maps.size],by simp[Maps.size]⟩
theorem zPa{L:List ByteArray}{D:DataW Unit}{s:ByteArray}(hT:Tidy D)(hM:IsMap D)(hk:WideAt.IsKeyLit (.string s.data.toList))(h:Keys L D)(d:DataW Unit):Keys (L++[s]) (D.put (.string s.data.toList) d):=by
 obtain⟨h1,h2,h3⟩:=h;have hz:=size_put (k:=.string s.data.toList) hT d;rw[h1 s]at hz;refine⟨fun t=>?_,?_,?_⟩
 ·by_cases e:s=t
  ·subst e;rw[has_put_same hM hk,It.zHY]
  ·have hne:(Lit.string t.data.toList)≠.string s.data.toList:=fun h=>e (It.zJS (by injection h with h;exact h.symm))
   rw[has_put_other hne,h1 t,Bool.eq_iff_iff,It.zCK,It.zCK];simp[Ne.symm e]
 ·rw[hz];split<;>simp<;>omega
 ·rw[hz];cases hi:It.isIn L s with
  |true=>
   have hm:=It.zCK.1 hi;rw[if_pos rfl];constructor
   ·intro e;simp at e;omega
   ·intro hN;rw[List.nodup_append]at hN;exact absurd rfl (hN.2.2 s hm s (by simp))
  |false=>
   have hm:s∉L:=fun h=>by rw[It.zCK.2 h]at hi;cases hi
   rw[if_neg (by simp)];simp only[List.length_append,List.length_cons,List.length_nil,Nat.zero_add,Nat.add_right_cancel_iff];rw[h3,List.nodup_append];constructor
   ·intro hN;refine⟨hN,by simp,fun a ha b hb=>?_⟩;simp only[List.mem_singleton]at hb;subst hb;exact fun e=>hm (e▸ha)
   ·exact fun hN=>hN.1
theorem zNO{G:Gram}(h:GOk G){s:Nat}(hs:s<(names G).length):((names G)[s]).size<=140737488355328:=by
 have:=List.getElem_mem hs;rcases List.mem_append.1 (show(names G)[s]∈G.terms++G.nons from this)with h1|h1
 ·exact h.terms _ h1
 ·exact h.nons _ h1
theorem zFc(h:Sh)(G:Gram)(w:World)(k:GAt h G w):
  Calls Tryz.prog 99 #[gv h G] w (Is (.bool (!zE2 G)) w):=by
 have T:=zVZ (fun w1 (b:Below w.heap.size w w1)=>zB0 h G w1 (k.went b));have N:=zVZ (fun s w1 (b:Below w.heap.size w w1)=>zGf h G s w1 (k.went b));have X:=zVZ (Bx.start h G w 41);have SZ:=zVZ (fun s hs=>zNO k.ok (s:=s) hs);have ht:top G<=281474976710656:=by have:=k.t2;have:=k.n2;unfold top;omega
 have hmm:=@run_makeMap Tryz.prog;clear k;unfold gv;go_enter Tryz.func99,Tryz.ntmps99;go_wp2;go_loopw [4] (fun i wr=>∃j:Nat,∃D,j<=top G/\i=.int .i64 ((j:Int)+1)/\Bx w h G wr/\wr.ownsMap Tryz.prog 9 zOe (w.heap.size+1) j D/\Keys ((names G).take j) D) (fun i _=>(top G+1)-(intOf i).toNat)
 case atStart=>exact⟨0,.map [],Nat.zero_le _,rfl,X.out.alloc _,by simpa using World.ownsMap_made (w.alloc _) Tryz.prog 9 zOe,by simpa using zPZ⟩
 case round=>
  clear X;obtain⟨j,D,hj,rfl,hX,hO,hK⟩:=hrel;have X:=zVZ hX;obtain⟨x0,x1,x2,x3⟩:=hX.box;have O:=zVZ hO;have KY:=zVZ hK;clear hX hO hK
  by_cases hlt:j<top G
  ·have hl:j<(names G).length:=by rw[zBI];exact hlt
   have E:=zVZ (zIt hlt);have ST:=zVZ (List.take_succ_eq_append_getElem hl);have hs:=SZ.out j hl;generalize (names G)[j]=x at E ST hs;have hk:=zVZ (zRD (s:=x) (by unfold maxLen;omega));have K2:=zVZ (fun d=>zPa (O.out.tidy law) O.out.isMap (zSf (s:=x) (by unfold maxLen;omega)) KY.out d);clear hl
   go_wp2_with (first
    |(go_at_call 107;refine(T.out _ X.out.below).mono ?_;rintro e w1 ⟨rfl,hb⟩;have X:=zVZ (X.out.went hb);have O:=zVZ (Sep.ownsMap_at O.out (hb.block _ O.out.lt));obtain⟨x0,x1,x2,x3⟩:=X.out.box;clear hb)
    |(go_at_call 125;refine(N.out _ _ X.out.below).mono ?_;rw[E.out];rintro e w2 ⟨rfl,hb⟩;have X:=zVZ (X.out.went hb);have O:=zVZ (Sep.ownsMap_at O.out (hb.block _ O.out.lt));clear hb)
    | (at_mapUpdate;refine wpList_mapUpdate_own _ rfl _ _ _ 136 rfl 9 3 law Tryz.underlying136 zOe (w.heap.size+1) j D rfl O.out (by unfold maxLen;omega) _ _ _ rfl rfl hk.out _ [] (plainElem_int Tryz.underlying3 (WalkArith.wf_i64 (by omega))) ?_;intro w3 hown1 hg1;have X:=zVZ (X.out.grown hg1 (fun q hq=>by injection hq with hq;omega));have O:=zVZ hown1;clear hown1 hg1))
   go_roundw
   case rel=>exact⟨j+1,_,by omega,by go_num,X.out,O.out,by rw[ST.out];exact K2.out _⟩
   case measure=>simp[intOf];omega
  ·have hE:j=top G:=by omega
   subst hE;have HK:=zVZ (show Keys (names G) D by have h1:=KY.out;rw[List.take_of_length_le (by rw[zBI];exact Nat.le_refl _)]at h1;exact h1);have hsz:=HK.out.2.1;rw[zBI]at hsz
   go_wp2_with (first
    |(go_at_call 107;refine(T.out _ X.out.below).mono ?_;rintro e w1 ⟨rfl,hb⟩;have X:=zVZ (X.out.went hb);have O:=zVZ (Sep.ownsMap_at O.out (hb.block _ O.out.lt));obtain⟨x0,x1,x2,x3⟩:=X.out.box;clear hb)
    | (at_len;refine wpList_len_own _ rfl _ 136 rfl 9 3 Tryz.underlying136 zOe (w.heap.size+1) (top G) D rfl O.out ?_))
   go_ret;refine⟨zAF ?_,X.out.below⟩;have h3:=HK.out.2.2;rw[zBI]at h3;unfold zE2
   by_cases hN:(names G).Nodup
   ·rw[decide_eq_true hN];have:=h3.2 hN;simp;omega
   ·rw[decide_eq_false hN];have:¬Maps.size D=top G:=fun e=>hN (h3.1 e)
    simp;omega
