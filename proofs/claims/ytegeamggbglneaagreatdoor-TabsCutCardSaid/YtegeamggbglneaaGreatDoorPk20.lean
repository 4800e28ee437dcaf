/- Proof. -/
import Derived.Test.YtegeamggbglneaaGreatDoorPk18
import Derived.Test.YtegeamggbglneaaGreatDoorPk19
set_option maxHeartbeats 16000000
set_option maxRecDepth 100000
set_option linter.unusedVariables false
namespace Go.Proofs.YtegeamggbglneaaGreatDoor
namespace Ts
open Go.RowKit Go.Maps Go.WideShapes
open Pk
open Gr (cell_later)
open Go.Proofs.YtegeamggbglneaaGreatDoor.Sep (Fr)
theorem uB{x}{w w'}(h:Fr (fun k=>k=x) w w'):w.grownBy w' (some x):=⟨h.os,h.tape,h.output,h.size,fun k hk hne=>h.block k hk fun e=>hne (by rw[e])⟩
theorem Et{S}{a b c}(h:Fr S a b)(hb:Below b.heap.size b c):Fr S a c:=h.trans (.of_below hb) fun x hx=> .inl hx
theorem mD{S}{a b c}(h:Fr S a b)(k:Fr S b c):Fr S a c:=h.trans k fun x hx=> .inl hx
structure aT (T:TypeId) (p b:Nat) (s:St) (w:World):Prop where
 ex:∃a c,w.heap[p]?=some (.cells #[.slice a s.1.length c,.bool s.2] T (0,0))/\s.1.length<=c/\∀i (h:i<s.1.length),∃o,a=some ⟨b,o,none⟩/\w.cell? ⟨b,o+i,none⟩=some (.int .u8 s.1[i])
 j0:By s.1
 len:s.1.length<=35184372088832
 lt:0<s.1.length->b<p
section
variable {T:TypeId} {p b lo:Nat} {s:St} {w w':World}
theorem aT.pl(h:aT T p b s w):p<w.heap.size:=by
 obtain⟨a,c,h1,_⟩:=h.ex;exact(Array.getElem?_eq_some_iff.1 h1).1
theorem aT.ty(h:aT T p b s w):Ty p T w:=by
 obtain⟨a,c,h1,_⟩:=h.ex;exact⟨_,_,h1⟩
theorem aT.keep(h:aT T p b s w)(hp:w'.heap[p]?=w.heap[p]?)(hb:0<s.1.length->w'.heap[b]?=w.heap[b]?):aT T p b s w':=by
 obtain⟨a,c,h1,h2,h3⟩:=h.ex;refine⟨⟨a,c,hp.trans h1,h2,fun i hi=>?_⟩,h.j0,h.len,h.lt⟩;obtain⟨o,e,h4⟩:=h3 i hi;exact⟨o,e,(World.cell?_of_block (a:=⟨b,o+i,none⟩) (hb (by omega))).trans h4⟩
theorem aT.went(h:aT T p b s w)(hb:Below w.heap.size w w'):aT T p b s w':=h.keep (hb.block p h.pl) fun h0=>hb.block b (by have:=h.lt h0;have:=h.pl;omega)
theorem aT.grown(h:aT T p b s w){o}(hg:w.grownBy w' o)(hp:p<lo)(ho:∀x,o=some x->lo<=x):aT T p b s w':=
 h.keep (hg.block p h.pl fun e=>by have:=ho p e.symm;omega) fun h0=>hg.block b (by have:=h.lt h0;have:=h.pl;omega) fun e=>by have:=ho b e.symm;have:=h.lt h0;omega
theorem aT.fr(h:aT T p b s w){q}(hf:Fr (fun x=>x=q) w w')(hq:p<q):aT T p b s w':=
 h.keep (hf.block p h.pl (by omega)) fun h0=>hf.block b (by have:=h.lt h0;have:=h.pl;omega) (by have:=h.lt h0;omega)
theorem aT.next{x y}{l}{f}(h:aT T p b (x::y::l,f) w):∃a c,w.heap[p]?=some (.cells #[.slice (some ⟨b,a,none⟩) (l.length+2) c,.bool f] T (0,0))/\l.length+2<=c/\w.cell? ⟨b,a,none⟩=some (.int .u8 x)/\w.cell? ⟨b,a+1,none⟩=some (.int .u8 y)/\
  (0<=x/\x<256)/\(0<=y/\y<256)/\b≠p/\∀a' c',(0<l.length->a'=a+2)->l.length<=c'->aT T p b (l,f) (w.setCell ⟨p,0,none⟩ (.slice (some ⟨b,a',none⟩) l.length c')):=by
 obtain⟨a,c,h1,h2,h3⟩:=h.ex;obtain⟨o,rfl,k0⟩:=h3 0 (by simp);have k1:=h3 1 (by simp);obtain⟨o1,e1,k1⟩:=k1;simp only[Option.some.injEq,Addr.mk.injEq,and_true,true_and]at e1;subst e1;have hb:=h.lt (by simp);refine⟨o,c,h1,h2,k0,k1,h.j0 x (by simp),h.j0 y (by simp),by omega,fun a' c' ha' hc'=>?_⟩;refine⟨⟨_,c',ft h1 _,hc',fun i hi=>⟨a',rfl,?_⟩⟩,fun z hz=>h.j0 z (by simp[hz]),by have:=h.len;simp at this;dsimp only;omega,fun _=>hb⟩;have hi':i+2<(x::y::l).length:=by simp only[List.length_cons];dsimp only at hi;omega
 obtain⟨o2,e2,k2⟩:=h3 (i+2) hi';simp only[Option.some.injEq,Addr.mk.injEq,and_true,true_and]at e2;subst e2;have e3:(x::y::l)[i+2]=l[i]:=rfl;dsimp only at k2;rw[e3]at k2;obtain rfl:=ha' (by dsimp only at hi;omega);rw[show o+2+i=o+(i+2)by omega];have hg:=Rg.jg w p 0 (.slice (some ⟨b,o+2,none⟩) l.length c');have hbs:b<w.heap.size:=by have:=h.pl;omega
 exact(World.cell?_of_block (a:=⟨b,o+(i+2),none⟩) (hg.block b hbs fun e=>by injection e with e;omega)).trans k2
theorem aT.short(h:aT T p b s w):aT T p b (s.1,true) (w.setCell ⟨p,1,none⟩ (.bool true)):=by
 obtain⟨a,c,h1,h2,h3⟩:=h.ex;refine⟨⟨a,c,ft h1 _,h2,fun i hi=>?_⟩,h.j0,h.len,h.lt⟩;obtain⟨o,e,h4⟩:=h3 i hi;have hg:=Rg.jg w p 1 (.bool true);have hb:=h.lt (by dsimp only at hi;omega);exact⟨o,e,(World.cell?_of_block (a:=⟨b,o+i,none⟩) (hg.block b (by have:=h.pl;omega) fun e=>by injection e with e;omega)).trans h4⟩
theorem aT.box(h:aT T p b s w):∃a c,w.heap[p]?=some (.cells #[.slice a s.1.length c,.bool s.2] T (0,0))/\s.1.length<=c:=by
 obtain⟨a,c,h1,h2,_⟩:=h.ex;exact⟨a,c,h1,h2⟩
end
def dv(a:Option Addr)(L:List Int)(w:World):Prop:=dW a L w/\∀b o,a=some ⟨b,o,none⟩->0<L.length->Ty b 3 w
section
variable {a:Option Addr} {L:List Int} {w w':World}
theorem dv.kept(h:dv a L w){x}{U}(hx:Ty x U w)(hU:3≠U)(hg:w.grownBy w' (some x)):dv a L w':=by
 refine⟨fun i hi=>?_,fun b o e hl=>(h.2 b o e hl).kept' hx hU hg⟩;obtain⟨b,o,e,h1⟩:=h.1 i hi
 have hl:0<L.length:=by
  rw[List.length_map]at hi;omega
 exact⟨b,o,e,(World.cell?_of_block ((h.2 b o e hl).kept hx hU hg)).trans h1⟩
theorem dv.went(h:dv a L w)(hb:Below w.heap.size w w'):dv a L w':=⟨h.1.went hb,fun b o e hl=>(h.2 b o e hl).went hb⟩
theorem dv.nil(w):dv none [] w:=⟨.nil _ _,fun b o e=>by cases e⟩
theorem zQU{base c}(h:w.ownsRow base 3 1 (.slice a L.length c) L.length (L.map (.int .i64))):dv a L w:=⟨Sep.Reads.dQ h,fun b o e _=>pI h (by rw[e];rfl)⟩
def fA(a:Option Addr)(R:List (Int×List Int))(w:World):Prop:=
 ∀i (h:i<R.length),∃b o ra rc,a=some ⟨b,o,none⟩/\w.cell? ⟨b,o+i*2,none⟩=some (.int .i64 R[i].1)/\w.cell? ⟨b,o+i*2+1,none⟩=some (.slice ra R[i].2.length rc)/\dv ra R[i].2 w/\R[i].2.length<=rc/\R[i].2.length<=100000/\Ty b 55 w
theorem fA.plain{R}(h:fA a R w):eZ a R w:=fun i hi=>by
 obtain⟨b,o,ra,rc,e,h1,h2,h3,_,h4,_⟩:=h i hi;exact⟨b,o,ra,rc,e,h1,h2,h3.1,by omega⟩
theorem fA.kept{R}(h:fA a R w){x}{U}(hx:Ty x U w)(hU:3≠U)(hV:55≠U)(hg:w.grownBy w' (some x)):fA a R w':=fun i hi=>by
 obtain⟨b,o,ra,rc,e,h1,h2,h3,h4,h5,h6⟩:=h i hi;have hb:=h6.kept hx hV hg;exact⟨b,o,ra,rc,e,(World.cell?_of_block hb).trans h1,(World.cell?_of_block hb).trans h2,h3.kept hx hU hg,h4,h5,h6.kept' hx hV hg⟩
theorem fA.went{R}(h:fA a R w)(hb:Below w.heap.size w w'):fA a R w':=fun i hi=>by
 obtain⟨b,o,ra,rc,e,h1,h2,h3,h4,h5,h6⟩:=h i hi;exact⟨b,o,ra,rc,e,cell_later hb h1,cell_later hb h2,h3.went hb,h4,h5,h6.went hb⟩
theorem fA.nil(w):fA none [] w:=fun i hi=>absurd hi (Nat.not_lt_zero _)
end
end Ts
namespace Ts
open Go.RowKit Go.Maps
open Pk
open Gr (cell_later)
structure dS (a:Option Addr) (c:Nat) (L:List Int) (w:World):Prop where
 at_:∀i (h:i<L.length),∃b o,a=some ⟨b,o,none⟩/\w.cell? ⟨b,o+i,none⟩=some (.int .u8 L[i])
 j0:By L
 cap:L.length<=c
 len:L.length<=35184372088832
theorem dS.went{a}{c}{L}{w w'}(h:dS a c L w)(hb:Below w.heap.size w w'):dS a c L w':=⟨fun i hi=>by
 obtain⟨b,o,e,h1⟩:=h.at_ i hi
 exact⟨b,o,e,cell_later hb h1⟩,h.j0,h.cap,h.len⟩
theorem zNN{L:List Int}{k}(hk:k<3)(hl)(hp:L.take k=head.take k)(e:L[k]=head[k]'(by exact hk)):L.take (k+1)=head.take (k+1):=by
 rw[List.take_succ_eq_append_getElem hl,List.take_succ_eq_append_getElem (show k<head.length from hk),hp,e]
 rfl
theorem zN(w)(m):Below w.heap.size w (w.drewN m):=⟨rfl,rfl,rfl,Nat.le_refl _,fun _ _=>rfl⟩
theorem DT{a:Option Addr}{c:Nat}{L:List Int}{w:World}(h:dS a c L w):Calls Tryz.prog 55 #[.slice a L.length c] w (Gr.Is (.int .i64 (jk L)) w):=by
 have H:=af (fun w' (b:Below w.heap.size w w')=>h.went b);have END:=af (fun k (hk:k<3) (hp:L.take k=head.take k) (e:L.length=k)=>(show jk L=4 from(sj (h:=head) hk hp).1 e));have O4:=af (fun k (hk:k<3) (hp:L.take k=head.take k) (hl:k<L.length) (e:L[k]≠head[k]'(by exact hk))=>(show jk L=10 from(sj (h:=head) hk hp).2 hl e));have ALL:=af (fun(hp:L.take 3=head.take 3)=>(show jk L=0 from zQJ (h:=head) hp));have STEP:=af (fun k (hk:k<3) (hp:L.take k=head.take k) (hl:k<L.length) e=>zNN hk hl hp e);have hlen:=h.len;clear h;generalize jk L=g at*;go_enter Tryz.func55,Tryz.ntmps55;go_wp2;go_loopw [4] (fun i wr=>∃k:Nat,i=.int .i64 (k:Int)/\k<=3/\L.take k=head.take k/\Below w.heap.size w wr) (fun i _=>3-(intOf i).toNat)
 case atStart=>exact⟨0,rfl,by omega,rfl,.refl _ _⟩
 case round=>
  obtain⟨k,rfl,hk,hp,hB⟩:=hrel;have PP:=af hp;have B:=af hB;clear hp hB
  by_cases hlt:k<3
  ·have hkn:(k:Int)<3:=by omega
   by_cases hle:k<L.length
   ·have hne:((k:Int)==(L.length:Int))=false:=by simp;omega
    obtain⟨b,o,rfl,hc⟩:=(H.out wr B.out).at_ k hle
    have hy:=(H.out wr B.out).j0 _ (List.getElem_mem hle);have wU:=af (O4.out k hlt PP.out hle);have qm:=af (STEP.out k hlt PP.out hle);have hkl:(k:Int)<(L.length:Int):=by omega
    generalize L[k]=x at*;have hk3:k=0\/k=1\/k=2:=by omega
    clear O4 STEP END ALL;rcases hk3 with rfl|rfl|rfl
    ·by_cases hx:x=76
     ·subst hx;have S:=af (qm.out rfl);rw[Nat.add_zero]at hc;go_wp2;go_quiet (fail);go_wp2;go_roundw
      case rel=>exact⟨0+1,by go_num,by omega,S.out,Gr.step B.out (zN _ _)⟩
      case measure=>first|(simp[intOf];omega)|omega|decide
     ·have E:=af (wU.out hx);have zy:(x != 76)=true:=by simpa using hx
      rw[Nat.add_zero]at hc;go_wp2;go_quiet (fail);go_wp2;go_ret;exact⟨by rw[E.out];rfl,Gr.step B.out (zN _ _)⟩
      case roundEnd=>
       rename_i hh;rw[bne_eq_false_iff_eq]at hh;exact absurd (hh.trans (by rfl):x=76) hx
    ·by_cases hx:x=84
     ·subst hx;have S:=af (qm.out rfl);go_wp2;go_quiet (fail);go_wp2;go_roundw
      case rel=>exact⟨1+1,by go_num,by omega,S.out,Gr.step B.out (zN _ _)⟩
      case measure=>first|(simp[intOf];omega)|omega|decide
     ·have E:=af (wU.out hx);have zy:(x != 84)=true:=by simpa using hx
      go_wp2;go_quiet (fail);go_wp2;go_ret;exact⟨by rw[E.out];rfl,Gr.step B.out (zN _ _)⟩
      case roundEnd=>
       rename_i hh;rw[bne_eq_false_iff_eq]at hh;exact absurd (hh.trans (by rfl):x=84) hx
    ·by_cases hx:x=49
     ·subst hx;have S:=af (qm.out rfl);go_wp2;go_quiet (fail);go_wp2;go_roundw
      case rel=>exact⟨2+1,by go_num,by omega,S.out,Gr.step B.out (zN _ _)⟩
      case measure=>first|(simp[intOf];omega)|omega|decide
     ·have E:=af (wU.out hx);have zy:(x != 49)=true:=by simpa using hx
      go_wp2;go_quiet (fail);go_wp2;go_ret;exact⟨by rw[E.out];rfl,Gr.step B.out (zN _ _)⟩
      case roundEnd=>
       rename_i hh;rw[bne_eq_false_iff_eq]at hh;exact absurd (hh.trans (by rfl):x=49) hx
   ·obtain rfl:k=L.length:=by
     have:L.length<=k:=by omega
     have h2:=congrArg List.length PP.out;rw[List.length_take,List.length_take]at h2;have h3:head.length=3:=rfl;omega
    have E:=af (END.out _ hlt PP.out rfl);go_wp2;go_ret;exact⟨by rw[E.out];rfl,B.out⟩
  ·obtain rfl:k=3:=by omega
   have E:=af (ALL.out PP.out);go_wp2;go_ret;exact⟨by rw[E.out];rfl,B.out⟩
end Ts
namespace Ts
open Go.RowKit Go.Maps
open Pk
open Go.Proofs.YtegeamggbglneaaGreatDoor.Sep (Fr)
theorem zVd(a b:Nat)(ha:a<65536)(hb:b<65536):bits .or .u16 (a:Int) (b:Int)=((a|||b:Nat):Int):=by
 have hx:a|||b<2^16:=Nat.or_lt_two_pow (by omega) (by omega)
 have h1:(BitVec.ofInt 16 (a:Int)).toNat=a:=by
  rw[BitVec.ofInt_natCast,BitVec.toNat_ofNat];exact Nat.mod_eq_of_lt (by omega)
 have h2:(BitVec.ofInt 16 (b:Int)).toNat=b:=by
  rw[BitVec.ofInt_natCast,BitVec.toNat_ofNat];exact Nat.mod_eq_of_lt (by omega)
 show IntKind.u16.wrap ((BitVec.ofInt 16 (a:Int)|||BitVec.ofInt 16 (b:Int)).toNat:Int)= _;rw[BitVec.toNat_or,h1,h2,IntKind.wrap_u16];omega
theorem zVc(k n:Nat)(hk:k<256)(hn:n<256):bits .or .u16 ((256*k:Nat):Int) (n:Int)=((256*k+n:Nat):Int):=by
 rw[zVd _ _ (by omega) (by omega)];have:=Nat.two_pow_add_eq_or_of_lt (i:=8) (b:=n) (by omega) k;rw[show(256:Nat)=2^8 by decide,←this]
theorem zUP(k:Nat)(hk:k<256):Op.shift BinOp.shl IntKind.u16 (k:Int) IntKind.u64 8=pure (.int .u16 ((256*k:Nat):Int)):=by
 show pure (Value.int .u16 (IntKind.u16.wrap ((k:Int)*2^8)))= _
 congr 2
 rw[IntKind.wrap_u16];omega
def lU(T:TypeId)(p b:Nat)(s:St)(k:IntKind)(w:World)(e:Ending)(w':World):Prop:=e=.returned (.int k (num s).1)/\aT T p b (num s).2 w'/\Fr (fun x=>x=p) w w'
theorem ML{s}(h:s.1.length<2):num s=(0,(s.1,true)):=by
 obtain⟨l,f⟩:=s
 match l,h with
 |[],_=>rfl
 |[x],_=>rfl
theorem MK(s:St):(∃x y l f,s=(x::y::l,f))\/s.1.length<2:=by
 obtain⟨l,f⟩:=s
 match l with
 |[]=>exact .inr (by simp)
 |[x]=>exact .inr (by simp)
 |x::y::l=>exact .inl ⟨x,y,l,f,rfl⟩
theorem EL{s}(h:By s.1):0<=(num s).1/\(num s).1<=65535:=by
 rcases MK s with⟨x,y,l,f,rfl⟩|hs
 ·have h1:=h x (by simp);have h2:=h y (by simp);show 0<=256*x+y/\256*x+y<=65535;omega
 ·rw[ML hs];exact⟨Int.le_refl _,(by decide:(0:Int)<=65535)⟩
theorem VJ{p b}{s}{w}(h:aT 93 p b s w):Calls Tryz.prog 103 #[.pointer (some ⟨p,0,none⟩)] w (lU 93 p b s .u16 w):=by
 rcases MK s with⟨x,y,l,f,rfl⟩|hs
 ·obtain⟨a,c,hb,hc,k0,k1,hx,hy,hne,CJ⟩:=h.next;have SET:=af CJ;have x0:=aF hb (k:=0) (by simp);have f0:=fu (k:=0) hb;simp only[List.getElem_toArray,List.getElem_cons_zero]at x0;obtain⟨m,rfl⟩:∃m:Nat,x=(m:Int):=⟨x.toNat,by omega⟩;obtain⟨n,rfl⟩:∃n:Nat,y=(n:Int):=⟨y.toNat,by omega⟩;have E:=af (show num ((m:Int)::(n:Int)::l,f)=(((256*m+n:Nat):Int),(l,f))from by unfold num;dsimp only;congr 1);have w1:IntKind.u16.wrap (m:Int)=(m:Int):=by rw[IntKind.wrap_u16];omega
  have w2:IntKind.u16.wrap (n:Int)=(n:Int):=by rw[IntKind.wrap_u16];omega
  have hsh:=zUP m (by omega);have hor:=zVc m n (by omega) (by omega);have hl:2<=l.length+2:=by omega
  have hl2:¬((l.length+2:Nat):Int)<2:=by omega
  have oq:((256*m+n:Nat):Int)<=65535:=by omega
  clear CJ hb h;generalize 256*m+n=z at*;generalize 256*m=zz at*;go_enter Tryz.func103,Tryz.ntmps103;go_wp2;go_quiet (fail);go_wp2
  all_goals
   go_ret;exact⟨by rw[E.out];rfl,by rw[E.out];exact(SET.out _ _ (by omega) (by omega)).keep rfl (fun _=>rfl),((Fr.refl (fun x=>x=p) w).drewN _).setCell ⟨p,0,none⟩ rfl _⟩
 ·obtain⟨a,c,hb,hc⟩:=h.box;have SH:=af h.short;have x0:=aF hb (k:=0) (by simp);have x1:=aF hb (k:=1) (by simp);have f1:=fu (k:=1) hb;simp only[List.getElem_toArray,List.getElem_cons_zero,List.getElem_cons_succ]at x0 x1;have hl2:(s.1.length:Int)<2:=by omega
  have E:=af (ML hs);have HP:=af ((Fr.refl (fun x=>x=p) w).setCell ⟨p,1,none⟩ rfl (.bool true));clear hs hb h;go_enter Tryz.func103,Tryz.ntmps103;go_wp2;go_ret;exact⟨by rw[E.out];rfl,by rw[E.out];exact SH.out,HP.out⟩
theorem wB{p b}{s}{w}(h:aT 93 p b s w):Calls Tryz.prog 88 #[.pointer (some ⟨p,0,none⟩)] w (lU 93 p b s .i64 w):=by
 have CA:=af (VJ h);have hn:0<=(num s).1/\(num s).1<=65535:=EL h.j0;have hw:IntKind.i64.wrap (num s).1=(num s).1:=by rw[IntKind.wrap_i64];omega
 clear h;unfold lU at*;generalize num s=q at*;obtain⟨z,s'⟩:=q;dsimp only at*;go_enter Tryz.func88,Tryz.ntmps88;go_wp2_with (go_at_call 103;refine(CA.out).mono ?_;rintro e w1 ⟨rfl,hr,hf⟩;have R:=af hr;have F:=af hf;clear hr hf);go_ret;exact⟨rfl,R.out,F.out⟩
end Ts
namespace Ts
open Go.RowKit Go.Maps Go.WideShapes
open Pk
open Go.Proofs.YtegeamggbglneaaGreatDoor.Sep (Fr bS)
theorem zOl{w:World}{base n size}{e}{a}{c}{xs}(h:w.ownsRow base e size (.slice a n c) n xs)(hn:0<n):∃b,a=some ⟨b,0,none⟩:=by
 rcases h.2 with⟨_,h0⟩|⟨g,cap,cur,e1,_⟩
 ·omega
 ·simp only[Value.slice.injEq]at e1;exact⟨g,e1.1⟩
theorem rH{α}{f:St->α×St}:∀(n:Nat) (s:St),(many f n s).1.length<=n:=by
 intro n s
 induction n with
 |zero=>exact Nat.le_refl _
 |succ n ih=>
  rw[many];split
  ·omega
  ·rw[List.length_append];simp only[List.length_cons,List.length_nil];omega
theorem OG{w w'}{base n size p}{E}{v}{xs}(h:w.ownsRow base E size v n xs)(hf:Fr (fun x=>x=p) w w')(hp:p<base):w'.ownsRow base E size v n xs:=bS h fun g e=>hf.block g (World.ownsRow.lt h g e).2 (by have:=(World.ownsRow.lt h g e).1;omega)
theorem EW{w:World}{base n size}{E}{v}{xs}(h:w.ownsRow base E size v n xs):∀x,v.ownBlock=some x->base<=x:=fun x e=>(World.ownsRow.lt h x e).1
structure eK (E:TypeId) (K:IntKind) (base:Nat) (v:Value) (L:List Int) (w:World):Prop where
 own:w.ownsRow base E 1 v L.length (L.map (.int K))
section
variable {E:TypeId} {K:IntKind} {base p:Nat} {v:Value} {L:List Int} {w w':World}
theorem eK.nil(E)(K)(base)(w):eK E K base (.slice none 0 0) [] w:=⟨World.ownsRow_nil _ _ _ _⟩
theorem eK.fr(h:eK E K base v L w)(hf:Fr (fun x=>x=p) w w')(hp:p<base):eK E K base v L w':=⟨OG h.own hf hp⟩
theorem eK.went(h:eK E K base v L w)(hb:Below w.heap.size w w'):eK E K base v L w':=⟨Em h.own hb⟩
theorem eK.snoc{v'}{z}{n}(hn:L.length=n)(hown:w'.ownsRow base E 1 v' (n+1) (L.map (.int K)++[.int K z])):eK E K base v' (L++[z]) w':=⟨by
 subst hn
 simpa using hown⟩
end
theorem eK.ints{base c}{a}{L}{w}(h:eK 3 .i64 base (.slice a L.length c) L w):dv a L w/\L.length<=c:=⟨zQU h.own,wM h.own⟩
theorem eK.iO{base c}{a}{L}{w}(h:eK 48 .u16 base (.slice a L.length c) L w):gp a L w/\L.length<=c:=⟨zPx h.own,wM h.own⟩
structure eN (base:Nat) (v:Value) (X:List (List Int)) (w:World):Prop where
 ex:∃vs,w.ownsRow base 66 1 v X.length vs/\vs.length=X.length/\∀j (hj:j<X.length),∃ra rc,vs[j]?=some (.slice ra X[j].length rc)/\gp ra X[j] w/\X[j].length<=rc/\X[j].length<=35184372088832
section
variable {base p:Nat} {v:Value} {X:List (List Int)} {w w':World}
theorem eN.nil(base)(w):eN base (.slice none 0 0) [] w:=⟨⟨[],World.ownsRow_nil _ _ _ _,rfl,fun j hj=>absurd hj (Nat.not_lt_zero _)⟩⟩
theorem eN.fr(h:eN base v X w){U}(ht:Ty p U w)(hU:48≠U)(hf:Fr (fun x=>x=p) w w')(hp:p<base):eN base v X w':=by
 obtain⟨vs,h1,h2,h3⟩:=h.ex;refine⟨⟨vs,OG h1 hf hp,h2,fun j hj=>?_⟩⟩;obtain⟨ra,rc,k1,k2,k3⟩:=h3 j hj;exact⟨ra,rc,k1,k2.kept ht hU (uB hf),k3⟩
theorem eN.went(h:eN base v X w)(hb:Below w.heap.size w w'):eN base v X w':=by
 obtain⟨vs,h1,h2,h3⟩:=h.ex;refine⟨⟨vs,Em h1 hb,h2,fun j hj=>?_⟩⟩;obtain⟨ra,rc,k1,k2,k3⟩:=h3 j hj;exact⟨ra,rc,k1,k2.went hb,k3⟩
theorem eN.snoc(h:eN base v X w){r}{ra}{rc}(hr:gp ra r w)(hc:r.length<=rc)(hl:r.length<=35184372088832){n}(hn:X.length=n):∃vs,w.ownsRow base 66 1 v n vs/\
  ∀v' w',w'.ownsRow base 66 1 v' (n+1) (vs++[.slice ra r.length rc])->w.grownBy w' v.ownBlock->eN base v' (X++[r]) w':=by
 subst hn;obtain⟨vs,h1,h2,h3⟩:=h.ex;refine⟨vs,h1,fun v' w' hown hg=>⟨⟨vs++[.slice ra r.length rc],by simpa using hown,by simp[h2],fun j hj=>?_⟩⟩⟩
 have keep:∀{a:Option Addr} {L:List Int},gp a L w->gp a L w':=fun {a L} hk=>by
  cases ho:v.ownBlock with
  |none=>
   rw[ho]at hg;exact hk.went ⟨hg.os,hg.tape,hg.output,hg.size,fun x hx=>hg.block x hx (by simp)⟩
  |some g=>
   rw[ho]at hg;exact hk.kept (pI h1 ho) (by decide) hg
 by_cases hjl:j<X.length
 ·obtain⟨a,c,k1,k2,k3⟩:=h3 j hjl;have ej:(X++[r])[j]=X[j]:=List.getElem_append_left hjl;rw[ej];exact⟨a,c,by rw[List.getElem?_append_left (by rw[h2];exact hjl)];exact k1,keep k2,k3⟩
 ·obtain rfl:j=X.length:=by simp at hj;omega
  have ej:(X++[r])[X.length]'hj=r:=by simp
  rw[ej];exact⟨ra,rc,by rw[←h2];simp,keep hr,hc,hl⟩
end
theorem eN.done{base c}{a}{X}{w}(h:eN base (.slice a X.length c) X w):lB a X w/\X.length<=c:=by
 obtain⟨vs,h1,h2,h3⟩:=h.ex;exact⟨⟨zUN h2 h1 h3,fun b o e _=>pI h1 (by rw[e];rfl)⟩,wM h1⟩
theorem eN.shape{base}{v}{X}{w}(h:eN base v X w):∃a c,v=.slice a X.length c:=by
 obtain⟨vs,h1,_⟩:=h.ex;exact Rw.cu h1
theorem eN.ge{base}{v}{X}{w}(h:eN base v X w):∀x,v.ownBlock=some x->base<=x:=by
 obtain⟨vs,h1,_⟩:=h.ex;exact EW h1
structure eO (base:Nat) (v:Value) (R:List (Int×List Int)) (w:World):Prop where
 ex:∃vs,w.ownsRow base 55 2 v R.length vs/\vs.length=R.length*2/\∀j (hj:j<R.length),∃ra rc,vs[j*2]?=some (.int .i64 R[j].1)/\vs[j*2+1]?=some (.slice ra R[j].2.length rc)/\dv ra R[j].2 w/\R[j].2.length<=rc/\R[j].2.length<=100000
section
variable {base p:Nat} {v:Value} {R:List (Int×List Int)} {w w':World}
theorem eO.nil(base)(w):eO base (.slice none 0 0) [] w:=⟨⟨[],World.ownsRow_nil _ _ _ _,rfl,fun j hj=>absurd hj (Nat.not_lt_zero _)⟩⟩
theorem eO.fr(h:eO base v R w){U}(ht:Ty p U w)(hU:3≠U)(hf:Fr (fun x=>x=p) w w')(hp:p<base):eO base v R w':=by
 obtain⟨vs,h1,h2,h3⟩:=h.ex;refine⟨⟨vs,OG h1 hf hp,h2,fun j hj=>?_⟩⟩;obtain⟨ra,rc,k1,k0,k2,k3⟩:=h3 j hj;exact⟨ra,rc,k1,k0,k2.kept ht hU (uB hf),k3⟩
theorem eO.went(h:eO base v R w)(hb:Below w.heap.size w w'):eO base v R w':=by
 obtain⟨vs,h1,h2,h3⟩:=h.ex;refine⟨⟨vs,Em h1 hb,h2,fun j hj=>?_⟩⟩;obtain⟨ra,rc,k1,k0,k2,k3⟩:=h3 j hj;exact⟨ra,rc,k1,k0,k2.went hb,k3⟩
theorem eO.snoc(h:eO base v R w){r}{ra}{rc}(hr:dv ra r.2 w)(hc:r.2.length<=rc)(hl:r.2.length<=100000){n}(hn:R.length=n):∃vs,w.ownsRow base 55 2 v n vs/\
  ∀v' w',w'.ownsRow base 55 2 v' (n+1) (vs++[.int .i64 r.1,.slice ra r.2.length rc])->w.grownBy w' v.ownBlock->eO base v' (R++[r]) w':=by
 subst hn;obtain⟨vs,h1,h2,h3⟩:=h.ex;refine⟨vs,h1,fun v' w' hown hg=>⟨⟨vs++[.int .i64 r.1,.slice ra r.2.length rc],by simpa using hown,by simp[h2];omega,fun j hj=>?_⟩⟩⟩
 have keep:∀{a:Option Addr} {L:List Int},dv a L w->dv a L w':=fun {a L} hk=>by
  cases ho:v.ownBlock with
  |none=>
   rw[ho]at hg;exact hk.went ⟨hg.os,hg.tape,hg.output,hg.size,fun x hx=>hg.block x hx (by simp)⟩
  |some g=>
   rw[ho]at hg;exact hk.kept (pI h1 ho) (by decide) hg
 by_cases hjl:j<R.length
 ·obtain⟨a,c,k1,k0,k2,k3⟩:=h3 j hjl;have ej:(R++[r])[j]=R[j]:=List.getElem_append_left hjl;rw[ej];exact⟨a,c,by rw[List.getElem?_append_left (by rw[h2];omega)];exact k1,by rw[List.getElem?_append_left (by rw[h2];omega)];exact k0,keep k2,k3⟩
 ·obtain rfl:j=R.length:=by simp at hj;omega
  have ej:(R++[r])[R.length]'hj=r:=by simp
  rw[ej];exact⟨ra,rc,by rw[List.getElem?_append_right (by omega),h2];simp,by rw[List.getElem?_append_right (by omega),h2,show R.length*2+1-R.length*2=1 by omega];rfl,keep hr,hc,hl⟩
end
theorem eO.done{base c}{a}{R}{w}(h:eO base (.slice a R.length c) R w):fA a R w/\R.length<=c:=by
 obtain⟨vs,h1,h2,h3⟩:=h.ex;refine⟨fun j hj=>?_,?_⟩
 ·obtain⟨ra,rc,k1,k0,k2,k3,k4⟩:=h3 j hj;obtain⟨b,rfl⟩:=zOl h1 (by omega);have t0:=World.ownsRow.cells h1 (g:=b) rfl (j*2) _ k1;have t1:=World.ownsRow.cells h1 (g:=b) rfl (j*2+1) _ k0;rw[WideShapes.add_plain]at t0 t1;exact⟨b,0,ra,rc,rfl,t0,by rw[Nat.add_assoc];exact t1,k2,k3,k4,pI h1 rfl⟩
 ·exact wM h1
theorem eO.shape{base}{v}{R}{w}(h:eO base v R w):∃a c,v=.slice a R.length c:=by
 obtain⟨vs,h1,_⟩:=h.ex;exact Rw.cu h1
theorem eO.ge{base}{v}{R}{w}(h:eO base v R w):∀x,v.ownBlock=some x->base<=x:=by
 obtain⟨vs,h1,_⟩:=h.ex;exact EW h1
end Ts
namespace Pk
open Go.RowKit Go.Maps
open Gr (boxed)
open Go.Proofs.YtegeamggbglneaaGreatDoor.Sep (Fr)
def Eh(T:Tb)(w:World)(e:Ending)(w':World):Prop:=
 ∃aR cR aW cW aX cX aG cG aH cH,e=.returned (.tuple #[.agg (bU (sS T).1 aR cR aW cW aX cX aG cG aH cH),.bool (sS T).2])/\dX (sS T).1 aR cR aW cW aX cX aG cG aH cH w'/\Below w.heap.size w w'
def dH:Array Value:=#[.slice none 0 0,.int .i64 0,.int .i64 0,.slice none 0 0,.slice none 0 0,.slice none 0 0,.slice none 0 0]
theorem LP(w:World):dX kT none 0 none 0 none 0 none 0 none 0 w:=by
 refine⟨fun i hi=>absurd hi (Nat.not_lt_zero _),.nil _ _,.nil _ _ _,.nil _ _,.nil _ _ _,?_,?_,?_,?_,?_,?_,?_,?_,?_,?_,⟨?_,?_,?_,?_,?_,?_,?_,?_⟩⟩
 all_goals first|(simp[kT];done)|(unfold Gr.Fits kT;dsimp only;omega)
theorem oU{w:World}{q:Nat}{u0 u1 u2 u3 u4 u5 u6:Value}{T:TypeId}(h:w.heap[q]?=some (.cells #[u0,u1,u2,u3,u4,u5,u6] T (0,0))):
  w.cell? ⟨q,0,none⟩=some u0/\w.cell? ⟨q,1,none⟩=some u1/\w.cell? ⟨q,2,none⟩=some u2/\w.cell? ⟨q,3,none⟩=some u3/\w.cell? ⟨q,4,none⟩=some u4/\w.cell? ⟨q,5,none⟩=some u5/\w.cell? ⟨q,6,none⟩=some u6/\∀k,w.frozen? ⟨q,k,none⟩=false:=
 ⟨aF h (k:=0) (by simp),aF h (k:=1) (by simp),aF h (k:=2) (by simp),aF h (k:=3) (by simp),aF h (k:=4) (by simp),aF h (k:=5) (by simp),aF h (k:=6) (by simp),fun k=>fu h⟩
def cK(w:World)(p:Nat)(v0 v1 v2 v3 v4 v5 v6:Value):World:=((((((w.setCell ⟨p,0,none⟩ v0).setCell ⟨p,1,none⟩ v1).setCell ⟨p,2,none⟩ v2).setCell ⟨p,3,none⟩ v3).setCell ⟨p,4,none⟩ v4).setCell ⟨p,5,none⟩ v5).setCell ⟨p,6,none⟩ v6
theorem Vw{w:World}{p:Nat}{u0 u1 u2 u3 u4 u5 u6 v0 v1 v2 v3 v4 v5 v6:Value}{T:TypeId}(h:w.heap[p]?=some (.cells #[u0,u1,u2,u3,u4,u5,u6] T (0,0))):
  (((((((w.setCell ⟨p,0,none⟩ v0).setCell ⟨p,1,none⟩ v1).setCell ⟨p,2,none⟩ v2).setCell ⟨p,3,none⟩ v3).setCell ⟨p,4,none⟩ v4).setCell ⟨p,5,none⟩ v5).setCell ⟨p,6,none⟩ v6).heap[p]?=some (.cells #[v0,v1,v2,v3,v4,v5,v6] T (0,0)):=by
 rw[ft (k:=6) (ft (k:=5) (ft (k:=4) (ft (k:=3) (ft (k:=2) (ft (k:=1) (ft (k:=0) h _) _) _) _) _) _)]
 rfl
theorem yt{w:World}{p:Nat}{u0 u1 u2 u3 u4 u5 u6:Value}{T:TypeId}(h:w.heap[p]?=some (.cells #[u0,u1,u2,u3,u4,u5,u6] T (0,0)))(v0 v1 v2 v3 v4 v5 v6:Value):
  (cK w p v0 v1 v2 v3 v4 v5 v6).cell? ⟨p,0,none⟩=some v0/\(cK w p v0 v1 v2 v3 v4 v5 v6).cell? ⟨p,1,none⟩=some v1/\(cK w p v0 v1 v2 v3 v4 v5 v6).cell? ⟨p,2,none⟩=some v2/\(cK w p v0 v1 v2 v3 v4 v5 v6).cell? ⟨p,3,none⟩=some v3/\
   (cK w p v0 v1 v2 v3 v4 v5 v6).cell? ⟨p,4,none⟩=some v4/\(cK w p v0 v1 v2 v3 v4 v5 v6).cell? ⟨p,5,none⟩=some v5/\(cK w p v0 v1 v2 v3 v4 v5 v6).cell? ⟨p,6,none⟩=some v6:=by
 have hh:(cK w p v0 v1 v2 v3 v4 v5 v6).heap[p]?=some (.cells #[v0,v1,v2,v3,v4,v5,v6] T (0,0)):=Vw h;exact⟨aF hh (k:=0) (by simp),aF hh (k:=1) (by simp),aF hh (k:=2) (by simp),aF hh (k:=3) (by simp),aF hh (k:=4) (by simp),aF hh (k:=5) (by simp),aF hh (k:=6) (by simp)⟩
theorem EC(w:World)(p:Nat)(v0 v1 v2 v3 v4 v5 v6:Value):Fr (fun x=>x=p) w (((((((w.setCell ⟨p,0,none⟩ v0).setCell ⟨p,1,none⟩ v1).setCell ⟨p,2,none⟩ v2).setCell ⟨p,3,none⟩ v3).setCell ⟨p,4,none⟩ v4).setCell ⟨p,5,none⟩ v5).setCell ⟨p,6,none⟩ v6):=
 (((((((Fr.refl (fun x=>x=p) w).setCell ⟨p,0,none⟩ rfl _).setCell ⟨p,1,none⟩ rfl _).setCell ⟨p,2,none⟩ rfl _).setCell ⟨p,3,none⟩ rfl _).setCell ⟨p,4,none⟩ rfl _).setCell ⟨p,5,none⟩ rfl _).setCell ⟨p,6,none⟩ rfl _
theorem wA{q:Nat}{W X:World}(h:Below W.heap.size W X)(hq:W.heap.size<=q)(v0 v1 v2 v3 v4 v5 v6:Value):Below W.heap.size W (((((((X.setCell ⟨q,0,none⟩ v0).setCell ⟨q,1,none⟩ v1).setCell ⟨q,2,none⟩ v2).setCell ⟨q,3,none⟩ v3).setCell ⟨q,4,none⟩ v4).setCell ⟨q,5,none⟩ v5).setCell ⟨q,6,none⟩ v6):=
 h.trans ((EC X q v0 v1 v2 v3 v4 v5 v6).below (fun x hx=>by omega) h.size)
theorem kept_alloc{w wa:World}{cs:Array Value}{T:TypeId}(h:Below (w.alloc (.cells cs T)).drew.heap.size (w.alloc (.cells cs T)).drew wa):wa.heap[w.heap.size]?=some (.cells cs T (0,0)):=
 (h.block w.heap.size (by change w.heap.size<(w.alloc (.cells cs T)).heap.size;rw[World.size_alloc];exact Nat.lt_succ_self _)).trans (gJ w _)
structure qj (T:Tb) (W:World) (b p:Nat) (w5:World):Prop where
 box:w5.heap[p]?=some (.cells (vO (.slice (some ⟨b,0,none⟩) T.rules.length T.rules.length) (.int .i64 T.terms) (.int .i64 T.ah) fun _=> .slice none 0 0) 32 (0,0))
 pl:p<w5.heap.size
 lo:W.heap.size<=p
 below:Below W.heap.size W w5
 rules:∀w',Fr (fun x=>x=p\/x<W.heap.size) w5 w'->eZ (some ⟨b,0,none⟩) T.rules w'
theorem qj.after{T:Tb}{W w1 we:World}{b:Nat}(h:Below W.heap.size W we)(hw:W.heap.size<=w1.heap.size)(hr:∀w2,(∀g,w1.heap.size<=g->g<we.heap.size->w2.heap[g]?=we.heap[g]?)->eZ (some ⟨b,0,none⟩) T.rules w2):
  qj T W b we.heap.size (we.alloc (.cells #[.slice (some ⟨b,0,none⟩) T.rules.length T.rules.length,.int .i64 T.terms,.int .i64 T.ah,.slice none 0 0,.slice none 0 0,.slice none 0 0,.slice none 0 0] 32)):=by
 refine⟨gJ _ _,?_,h.size,Gr.step h (boxed _ _),fun w' hf=>hr w' fun g h1 h2=>?_⟩
 ·rw[World.size_alloc];exact Nat.lt_succ_self _
 ·refine(hf.block g (by rw[World.size_alloc];omega) (by omega)).trans ?_;exact(boxed we _).block g h2
theorem qj.ahead{T:Tb}{W w1 we:World}{b:Nat}{u0 u1 u2 u3 u4 u5 u6:Value}(h:Below W.heap.size W we)(hw:W.heap.size<w1.heap.size)(kb:we.heap[W.heap.size]?=some (.cells #[u0,u1,u2,u3,u4,u5,u6] 32 (0,0)))(hr:∀w2,(∀g,w1.heap.size<=g->g<we.heap.size->w2.heap[g]?=we.heap[g]?)->eZ (some ⟨b,0,none⟩) T.rules w2):
  qj T W b W.heap.size (((((((we.setCell ⟨W.heap.size,0,none⟩ (.slice (some ⟨b,0,none⟩) T.rules.length T.rules.length)).setCell ⟨W.heap.size,1,none⟩ (.int .i64 T.terms)).setCell ⟨W.heap.size,2,none⟩ (.int .i64 T.ah)).setCell ⟨W.heap.size,3,none⟩ (.slice none 0 0)).setCell ⟨W.heap.size,4,none⟩ (.slice none 0 0)).setCell ⟨W.heap.size,5,none⟩ (.slice none 0 0)).setCell ⟨W.heap.size,6,none⟩ (.slice none 0 0)):=by
 have f:=EC we W.heap.size (.slice (some ⟨b,0,none⟩) T.rules.length T.rules.length) (.int .i64 T.terms) (.int .i64 T.ah) (.slice none 0 0) (.slice none 0 0) (.slice none 0 0) (.slice none 0 0);refine⟨Vw kb,Nat.lt_of_lt_of_le (Array.getElem?_eq_some_iff.1 kb).1 f.size,Nat.le_refl _,wA h (Nat.le_refl _) _ _ _ _ _ _ _,fun w' hf=>hr w' fun g h1 h2=>?_⟩;exact(hf.block g (Nat.lt_of_lt_of_le h2 f.size) (by omega)).trans (f.block g h2 (by omega))
theorem Uh(T:Tb):(df T).length=T.acts.length:=by simp[df]
theorem Ui(T:Tb):(dC T).length=T.goto.length:=by simp[dC]
theorem Zd{T:Tb}(h:Pt T)(S:lF T){i:Nat}(hi:i<T.acts.length):mH (T.acts[i].map ia):=by
 have hm:=List.getElem_mem hi;refine⟨fun c hc=>?_,by rw[List.length_map];exact S.ar _ hm⟩;obtain⟨x,hx,rfl⟩:=List.mem_map.1 hc;exact(He ((h.acts _ hm).2 x hx) h.a1 h.r1).2.1
theorem Ze{T:Tb}(h:Pt T)(S:lF T){i:Nat}(hi:i<T.goto.length):mH (T.goto[i].map lj):=by
 have hm:=List.getElem_mem hi;refine⟨fun c hc=>?_,by rw[List.length_map];exact S.gr _ hm⟩;obtain⟨x,hx,rfl⟩:=List.mem_map.1 hc;exact(Nw ((h.goto _ hm).2 x hx) h.a1).1
theorem zOV{T:Tb}{W w5:World}{b p:Nat}(h:qj T W b p w5){wa wb:World}(hs:wa=w5.alloc (.map #[] 0))(hb:wb=wa.alloc (.cells #[.map (some w5.heap.size),.slice none 0 0,.slice none 0 0] 64)):
  gA w5 p (w5.heap.size+1) w5.heap.size (.slice (some ⟨b,0,none⟩) T.rules.length T.rules.length) (.int .i64 T.terms) (.int .i64 T.ah) (LX T 0 0) (fun _=> .slice none 0 0) (fun _=>[]) (fun _=> .slice none 0 0) (IX T 0 0) wb:=by
 subst hs hb;have hs1:(w5.alloc (.map #[] 0)).heap.size=w5.heap.size+1:=World.size_alloc _ _;have b1:=boxed w5 (.map #[] 0);have b2:=boxed (w5.alloc (.map #[] 0)) (.cells #[.map (some w5.heap.size),.slice none 0 0,.slice none 0 0] 64);have hpl:=h.pl;refine⟨((Gr.step b1 b2).block p hpl).trans h.box,hpl,⟨?_,⟨0,fun _=>none,Nat.zero_le _,?_,?_⟩,fun k hk=>?_,fun g e=>(by cases e),by omega,Nat.le_refl _⟩,fun k hk=>?_,fun g e=>(by cases e),fun k hk=>?_,.of_below (Gr.step b1 b2)⟩
 ·have:=gJ (w5.alloc (.map #[] 0)) (.cells #[.map (some w5.heap.size),.slice none 0 0,.slice none 0 0] 64)
  rwa [hs1]at this
 ·exact(fM.made w5 _ _ _).keep (b2.block _ (by omega))
 ·rw[Hd,Hd];exact told_none
 ·rw[Hd];exact World.ownsRow_nil _ _ _ _
 ·rw[zPW];exact World.ownsRow_nil _ _ _ _
 ·rw[Hd];exact⟨rfl,fun j hj=>absurd hj (Nat.not_lt_zero _)⟩
end Pk
namespace Pk
open Go.RowKit Go.Maps
open Go.Proofs.YtegeamggbglneaaGreatDoor.Sep (Fr)
theorem zOR{T}(h:Pt T)(S:lF T)(hf:xm T){W w5 wb}{b p}(hB:qj T W b p w5){v vI}{vs}
  (hI:gA w5 p (w5.heap.size+1) w5.heap.size (.slice (some ⟨b,0,none⟩) T.rules.length T.rules.length) (.int .i64 T.terms) (.int .i64 T.ah) (LX T T.acts.length T.acts.length) v vs vI (IX T T.acts.length T.acts.length) wb)
  {aW aX aG aH} {cW nX cX cG nH cH} (e0:v 0=.slice aX nX cX) (e1:v 1=.slice aH nH cH) (i0:vI 0=.slice aW T.acts.length cW) (i1:vI 1=.slice aG T.acts.length cG) {w'} (hw:Fr (fun x=>x=p\/x<W.heap.size) wb w'):
  nX=(dh T).rows.length/\nH=(dh T).aj.length/\T.acts.length=(dh T).row.length/\T.acts.length=(dh T).bj.length/\dX (dh T) (some ⟨b,0,none⟩) T.rules.length aW cW aX cX aG cG aH cH w':=by
 have F6:=h.ga;have hA:(df T).length=T.acts.length:=by simp[df]
 have hG:(dC T).length=T.acts.length:=by simp[dC,F6]
 have l0:LX T T.acts.length T.acts.length 0=dt (df T):=by
  have:=(Yu T).1
  rwa [hA,hG]at this
 have l1:LX T T.acts.length T.acts.length 1=dt (dC T):=by
  have:=(Yu T).2
  rwa [hA,hG]at this
 have x0:IX T T.acts.length T.acts.length 0=idxs (df T):=by
  have:=(Yt T).1
  rwa [hA,hG]at this
 have x1:IX T T.acts.length T.acts.length 1=idxs (dC T):=by
  have:=(Yt T).2
  rwa [hA,hG]at this
 have hs0:∀r∈dt (df T),mH r:=fun r hr=>by
  rw[wI]at hr;obtain⟨i,hi,rfl⟩:=List.mem_iff_getElem.1 hr;have hi':i<T.acts.length:=by rw[←hA];exact hi
  have:=Zd h S hi'
  simpa[df]using this
 have hs1:∀r∈dt (dC T),mH r:=fun r hr=>by
  rw[wI]at hr;obtain⟨i,hi,rfl⟩:=List.mem_iff_getElem.1 hr;have hi':i<T.goto.length:=by rw[F6,←hG];exact hi
  have:=Ze h S hi'
  simpa[dC]using this
 have r0:=hI.st.row 0 (by decide);have r1:=hI.st.row 1 (by decide);have y0:=hI.idx 0 (by decide);have y1:=hI.idx 1 (by decide);have A0:=hI.rows (k:=0) (by decide) (fun r hr=>(hs0 r (by rw[←l0];exact hr)).2) e0;have A1:=hI.rows (k:=1) (by decide) (fun r hr=>(hs1 r (by rw[←l1];exact hr)).2) e1;rw[l0]at A0 r0;rw[l1]at A1 r1;rw[x0]at y0;rw[x1]at y1;rw[e0]at r0;rw[e1]at r1;rw[i0,jM,hA]at y0;rw[i1,jM,hG]at y1
 have cap:∀{lo:Nat} {U:TypeId} {n m c:Nat} {a:Option Addr} {xs:List Value},wb.ownsRow lo U 1 (.slice a n c) m xs->n=m/\n<=c:=fun hr=>by
  rcases hr.2 with⟨h1,h2⟩|⟨_,_,_,h1,_,_,h2,_⟩
  ·simp only[Value.slice.injEq]at h1;omega
  ·simp only[Value.slice.injEq]at h1;omega
 have c0:=cap r0;have c1:=cap r1;have c2:=cap y0;have c3:=cap y1
 have hlt:∀g,w5.heap.size<=g->¬(g=p\/g<W.heap.size):=fun g hg e=>by
  have:=hB.pl;have:=hB.lo;omega
 have qq:∀{lo:Nat} {U:TypeId} {n c:Nat} {a:Option Addr} {xs:List Value},wb.ownsRow w5.heap.size U 1 (.slice a n c) n xs->Sep.Reads a xs w':=fun hr=>(Sep.Reads.dQ hr).keep fun b' o e=>by
  subst e;have:=hr.lt b' rfl;exact hw.block b' this.2 (hlt _ this.1)
 have iO:∀{X:List (List Int)} {a:Option Addr} {k:Nat},k<2->wQ a X wb->(∀j (hj:j<X.length),∃u,(vs k)[j]?=some u/\Dat w5.heap.size X[j] u wb)->wb.ownsRow w5.heap.size 66 1 (v k) X.length (vs k)->∀{n c},v k=.slice a n c->wQ a X w':=fun {X a k} hk hc hd hr {n c} hv j hj=>by
  obtain⟨g,o,ra,rc,e,h1,h2,h3,h4⟩:=hc j hj;obtain⟨u,d1,b',d2,d3,d4⟩:=hd j hj;rw[hv]at hr;have hn:n=X.length:=(cap hr).1;subst hn;subst e;have hgl:=hr.lt g rfl;have t0:=World.ownsRow.cells hr (g:=g);obtain⟨g',hg'⟩:=sw hr (by omega);simp only[Option.some.injEq,Addr.mk.injEq]at hg';obtain⟨rfl,rfl,_⟩:=hg';have t0:=World.ownsRow.cells hr (g:=g) rfl j _ d1;rw[WideShapes.add_plain]at t0;rw[t0]at h1;injection h1 with h1
  rw[d2]at h1;simp only[Value.slice.injEq]at h1;refine⟨g,0,ra,rc,rfl,hw.cell (p:=⟨g,0+j,none⟩) (by rw[t0,d2,←h1.1,←h1.2.2]) (hlt g hgl.1),?_,h3,h4⟩;rw[←h1.1];exact GH ((hw.block b' (Array.getElem?_eq_some_iff.1 d3).1 (hlt b' d4)).trans d3)
 have hd0:=(hI.dat 0 (by decide)).2;have hd1:=(hI.dat 1 (by decide)).2;rw[l0]at hd0;rw[l1]at hd1;have Sw:=hI.st.row 0 (by decide);have Sy:=hI.st.row 1 (by decide);rw[l0]at Sw;rw[l1]at Sy;have abt:=sk (df T);have abu:=sk (dC T);have hal:=S.al;have hrl:=S.rl;refine⟨c0.1,c1.1,by simp[dh,jM,hA],by simp[dh,jM,hG],?_⟩;refine⟨hB.rules w' ((hI.fr.mono fun x hx=> .inl hx).trans hw fun x hx=> .inl hx),qq (lo:=0) y0,iO (k:=0) (by decide) A0 hd0 Sw e0,qq (lo:=0) y1,iO (k:=1) (by decide) A1 hd1 Sy e1,Nat.le_refl _,?_,?_,?_,?_,?_,?_,?_,?_,?_,⟨hf.t,hf.n,hf.left,hf.right,?_,?_,fun r hr=>(hs0 r hr).1,fun r hr=>(hs1 r hr).1⟩⟩
 ·show(idxs (df T)).length<=cW;rw[jM,hA];exact c2.2
 ·show(dt (df T)).length<=cX;omega
 ·show(idxs (dC T)).length<=cG;rw[jM,hG];exact c3.2
 ·show(dt (dC T)).length<=cH;omega
 ·show T.rules.length<= _;omega
 ·show(idxs (df T)).length<= _;rw[jM];omega
 ·show(dt (df T)).length<= _;omega
 ·show(idxs (dC T)).length<= _;rw[jM];omega
 ·show(dt (dC T)).length<= _;omega
 ·intro x hx;obtain⟨i,_,rfl⟩:=List.mem_map.1 hx;have:=Ii (dt ((df T).take i)) ((df T).getD i []);have:=sk ((df T).take i);have:((df T).take i).length<=(df T).length:=by rw[List.length_take];omega
  unfold Gr.Fits;omega
 ·intro x hx;obtain⟨i,_,rfl⟩:=List.mem_map.1 hx;have:=Ii (dt ((dC T).take i)) ((dC T).getD i []);have:=sk ((dC T).take i);have:((dC T).take i).length<=(dC T).length:=by rw[List.length_take];omega
  unfold Gr.Fits;omega
end Pk
namespace Pk
open Go.RowKit Go.Maps
open Gr (cell_later boxed drawn)
theorem zRV(T:Tb)(aR:Option Addr)(cR:Nat)(aA:Option Addr)(cA:Nat)(aG:Option Addr)(cG:Nat)(w:World)(S:lF T)(x:Int×Int):
  Calls Tryz.prog 65 #[.agg (dI T aR cR aA cA aG cG),av x] w (Gr.Is (.bool (kQ T.acts.length T.rules.length x)) w):=by
 obtain⟨x1,x2⟩:=x;have b1:=boxed w (.cells (dI T aR cR aA cA aG cG) 26);have b2:=boxed (w.alloc (.cells (dI T aR cR aA cA aG cG) 26)) (.cells #[.int .i64 x1,.int .i64 x2] 57);have B2:=af (Gr.step b1 b2);obtain⟨z0,z1,z2,z3,z4⟩:=(sx (T:=T) (aR:=aR) (cR:=cR) (aA:=aA) (cA:=cA) (aG:=aG) (cG:=cG) w 26).went b2;have Y:=gJ (w.alloc (.cells (dI T aR cR aA cA aG cG) 26)) (.cells #[.int .i64 x1,.int .i64 x2] 57);rw[World.size_alloc]at Y;have y0:=aF Y (k:=0) (by simp);have y1:=aF Y (k:=1) (by simp);have h1:=S.rl;have h2:=S.al;have hw:IntKind.i64.wrap ((T.rules.length:Int)-1)=(T.rules.length:Int)-1:=by rw[IntKind.wrap_i64];omega
 clear b1 b2 Y S;unfold dI at*
 have key:x1=0\/x1=3\/x1=1\/x1=2\/((x1==0)=false/\(x1==3)=false/\(x1==1)=false/\(x1==2)=false):=by
  simp only[beq_eq_false_iff_ne,ne_eq];omega
 rcases key with rfl|rfl|rfl|rfl|⟨e0,e3,e1,e2⟩
 all_goals
  go_enter Tryz.func65,Tryz.ntmps65;go_wp2
  all_goals
   go_ret;refine⟨Gr.aU ?_,B2.out⟩;go_light;unfold kQ;dsimp only
   try simp only[beq_eq_false_iff_ne,ne_eq,true_or,or_true,true_and]at*
   try rw[hw]
   first|(rw[decide_eq_true_iff];omega)|(rw[decide_eq_false_iff_not];omega)|(rw[Bool.eq_iff_iff];simp only[decide_eq_true_eq,beq_iff_eq];omega)
theorem GM{T}(h:sO T=false\/pZ T=false\/p9 T=false\/oG T=false):bo T=false:=by
 unfold bo;rcases h with h|h|h|h<;>rw[h]<;>simp
theorem zOh{T}(h1:sO T=true)(h2:pZ T=true)(h3:p9 T=true)(h4:oG T=true):bo T=true:=by
 unfold bo;rw[h1,h2,h3,h4]
 rfl
theorem Yg{T:Tb}{i:Nat}(hi:i<T.rules.length-1):(T.rules.take (T.rules.length-1))[i]'(by rw[List.length_take];omega)=T.rules[i]'(by omega):=by
 rw[List.getElem_take]
theorem zL0(T:Tb)(aR:Option Addr)(cR:Nat)(aA:Option Addr)(cA:Nat)(aG:Option Addr)(cG:Nat)(w:World)(D:nW T aR cR aA cA aG cG w)(S:lF T):
  Calls Tryz.prog 23 #[.agg (dI T aR cR aA cA aG cG)] w (Gr.Is (.bool (bo T)) w):=by
 have B1:=af (boxed w (.cells (dI T aR cR aA cA aG cG) 26));have Z1:=af (sx (T:=T) (aR:=aR) (cR:=cR) (aA:=aA) (cA:=cA) (aG:=aG) (cG:=cG) w 26);have DD:=af (fun w1 (b:Below w.heap.size w w1)=>D.went b);have RA:=af (fun w1 x=>zRV T aR cR aA cA aG cG w1 S x);have FR:=af (fun i (hi:i<T.rules.length-1) (e:eV T.terms T.ah (T.rules[i]'(by omega))=false)=>(show bo T=false from GM (.inr (.inr (.inr (kq (i:=i) (by rw[List.length_take];omega) (by rw[Yg hi];exact e)))))));have SR:=af (fun i (h:((T.rules.take (T.rules.length-1)).take i).all (eV T.terms T.ah)=true) (hi:i<T.rules.length-1) (e:eV T.terms T.ah (T.rules[i]'(by omega))=true)=>nG (i:=i) h (by rw[List.length_take];omega) (by rw[Yg hi];exact e));have ER:=af (fun i (h:((T.rules.take (T.rules.length-1)).take i).all (eV T.terms T.ah)=true) (hi:¬i<T.rules.length-1)=>(show oG T=true from ku h (by rw[List.length_take];omega)));have FA:=af (fun i (hi:i<T.acts.length) (e:mP T.acts.length T.rules.length T.terms T.acts[i]=false)=>(show bo T=false from GM (.inr (.inl (kq hi e)))));have FG:=af (fun i (hi:i<T.goto.length) (e:fV T.acts.length T.ah T.goto[i]=false)=>(show bo T=false from GM (.inr (.inr (.inl (kq hi e))))));have EA:=af (fun(h4:oG T=true) (h0:sO T=true) (hg:T.goto.length=T.acts.length) i (ha:(T.acts.take i).all (mP T.acts.length T.rules.length T.terms)=true) (hb:(T.goto.take i).all (fV T.acts.length T.ah)=true) (hi:¬i<T.acts.length)=>(show bo T=true from zOh h0 (ku ha hi) (ku hb (by omega)) h4));have HA:=af (fun i (hi:i<T.acts.length)=>zY S.ar hi);have HG:=af (fun i (hi:i<T.goto.length)=>zY S.gr hi);have HD:=af (fun(h:¬(0<T.rules.length/\0<T.acts.length/\T.goto.length=T.acts.length/\0<=T.terms/\0<=T.ah))=>(show bo T=false from GM (.inl (decide_eq_false h))));have HE:=af (fun(h:0<T.rules.length/\0<T.acts.length/\T.goto.length=T.acts.length/\0<=T.terms/\0<=T.ah)=>(show sO T=true from decide_eq_true h));have FT:=af D.fit;have hrl:=S.rl;have hal:=S.al;have hgl:=S.gl;have hcr:=D.rc;generalize bo T=g at*;clear D S;obtain⟨z0,z1,z2,z3,z4⟩:=Z1.out;unfold dI at*
 by_cases h1:T.rules.length=0
 ·have F2:=af (HD.out (by omega));have g0:((T.rules.length:Int)==0)=true:=by rw[beq_iff_eq];omega
  clear h1;go_enter Tryz.func23,Tryz.ntmps23;go_wp2_with fail;go_ret;exact⟨Gr.aU F2.out,B1.out⟩
 have g0:((T.rules.length:Int)==0)=false:=by rw[beq_eq_false_iff_ne];omega
 by_cases h2:T.acts.length=0
 ·have F2:=af (HD.out (by omega));have g1:((T.acts.length:Int)==0)=true:=by rw[beq_iff_eq];omega
  clear h1 h2;go_enter Tryz.func23,Tryz.ntmps23;go_wp2_with fail;go_ret;exact⟨Gr.aU F2.out,B1.out⟩
 have g1:((T.acts.length:Int)==0)=false:=by rw[beq_eq_false_iff_ne];omega
 by_cases h3:T.goto.length=T.acts.length
 rotate_left
 ·have F2:=af (HD.out (by omega));have g2:((T.goto.length:Int) != (T.acts.length:Int))=true:=by rw[bne_iff_ne];omega
  clear h1 h2 h3;go_enter Tryz.func23,Tryz.ntmps23;go_wp2_with fail;go_ret;exact⟨Gr.aU F2.out,B1.out⟩
 have g2:((T.goto.length:Int) != (T.acts.length:Int))=false:=by rw[h3];simp
 have H3:=af h3;clear h3
 by_cases h4:T.terms<0
 ·have F2:=af (HD.out (by omega));go_enter Tryz.func23,Tryz.ntmps23;go_wp2_with fail;go_ret;exact⟨Gr.aU F2.out,B1.out⟩
 by_cases h5:T.ah<0
 ·have F2:=af (HD.out (by omega));go_enter Tryz.func23,Tryz.ntmps23;go_wp2_with fail;go_ret;exact⟨Gr.aU F2.out,B1.out⟩
 have HT:=af (HE.out ⟨by omega,by omega,H3.out,by omega,by omega⟩);clear HD HE;have hwr:IntKind.i64.wrap ((T.rules.length:Int)-1)=(T.rules.length:Int)-1:=by rw[IntKind.wrap_i64];omega
 go_enter Tryz.func23,Tryz.ntmps23;go_wp2_with fail;generalize w.alloc (.cells #[.slice aR T.rules.length cR,.int .i64 T.terms,.int .i64 T.ah,.slice aA T.acts.length cA,.slice aG T.goto.length cG] 26)=w2 at*;clear z0 z1 z2 z3 z4 g0 g1 g2;go_loopw [3] (fun v wr=>∃i:Nat,v=.int .i64 (i:Int)/\i<=T.rules.length-1/\((T.rules.take (T.rules.length-1)).take i).all (eV T.terms T.ah)=true/\Below w2.heap.size w2 wr) (fun v _=>T.rules.length-(intOf v).toNat)
 case atStart=>exact⟨0,rfl,Nat.zero_le _,nI _ _,.refl _ _⟩
 case round=>
  obtain⟨i,rfl,hi,hA,hB⟩:=hrel;have A:=af hA;have B:=af hB;have BW:=af (Gr.step B1.out hB);clear hB hA;obtain⟨z0,z1,z2,z3,z4⟩:=Z1.out.went B.out
  by_cases hlt:i<T.rules.length-1
  ·obtain⟨b,o,ra,c,rfl,p0,p1,_,_⟩:=(DD.out wr BW.out).rules i (by omega);have hil:(i:Int)<(T.rules.length:Int)-1:=by omega
   have Kl:(i:Int)<(T.rules.length:Int):=by omega
   have FX:=af (FR.out i hlt);have SX:=af (SR.out i A.out hlt);have hfit:Gr.Fits (T.rules[i]'(by omega)).1:=FT.out.left _ (List.getElem_mem _);have hft:=FT.out.t;generalize T.rules[i]'(by omega)=r at*;obtain⟨l,rr⟩:=r;dsimp only at p0 p1 hfit;unfold Gr.Fits at hfit hft
   by_cases c1:l<=T.terms
   ·have F2:=af (FX.out (by unfold eV;rw[decide_eq_false_iff_not];dsimp only;omega));have d1:decide (l<=T.terms)=true:=decide_eq_true c1;clear hfit hft;go_wp2_with fail;go_quiet (fail);go_wp2_with fail;go_ret;exact⟨Gr.aU F2.out,BW.out.trans ⟨rfl,rfl,rfl,Nat.le_refl _,fun _ _=>rfl⟩⟩
   ·have d1:decide (l<=T.terms)=false:=decide_eq_false c1;have hw:IntKind.i64.wrap (l-T.terms)=l-T.terms:=by rw[IntKind.wrap_i64];omega
    by_cases c2:T.ah<l-T.terms
    ·have F2:=af (FX.out (by unfold eV;rw[decide_eq_false_iff_not];dsimp only;omega));clear hfit hft;go_wp2_with fail;go_quiet (fail);go_wp2_with fail;go_ret;exact⟨Gr.aU F2.out,BW.out.trans ⟨rfl,rfl,rfl,Nat.le_refl _,fun _ _=>rfl⟩⟩
    ·have A2:=af (SX.out (by unfold eV;rw[decide_eq_true_iff];dsimp only;omega));clear hfit hft;go_wp2_with fail;go_quiet (fail);go_wp2_with fail;go_roundw
     case rel=>exact⟨i+1,by go_num,by omega,A2.out,B.out.trans ⟨rfl,rfl,rfl,Nat.le_refl _,fun _ _=>rfl⟩⟩
     case measure=>first|(simp[intOf];omega)|omega
  ·have R4:=af (ER.out i A.out hlt);have hil:¬(i:Int)<(T.rules.length:Int)-1:=by omega
   go_wp2_with fail;generalize wr=w3 at*;clear z0 z1 z2 z3 z4 FR SR ER hwr hil hi hlt A;have Zt:=af (EA.out R4.out HT.out H3.out);clear EA;go_loopw [4] (fun v wr=>∃i:Nat,v=.int .i64 (i:Int)/\i<=T.acts.length/\(T.acts.take i).all (mP T.acts.length T.rules.length T.terms)=true/\(T.goto.take i).all (fV T.acts.length T.ah)=true/\Below w3.heap.size w3 wr) (fun v _=>T.acts.length-(intOf v).toNat)
   case atStart=>exact⟨0,rfl,Nat.zero_le _,nI _ _,nI _ _,.refl _ _⟩
   case round=>
    obtain⟨i,rfl,hi,hA,hG,hB⟩:=hrel;have A:=af hA;have G:=af hG;have B3:=af hB;have BA:=af (Gr.step B.out hB);have BW:=af (Gr.step B1.out BA.out);clear hB hA hG;obtain⟨z0,z1,z2,z3,z4⟩:=Z1.out.went BA.out
    by_cases hlt:i<T.acts.length
    ·have Gb:i<T.goto.length:=by have:=H3.out;omega
     obtain⟨b,o,ra,c,eaA,p0,p1,_,_⟩:=(DD.out wr BW.out).acts i hlt;obtain⟨b',o',rb,d,eaG,q0,q1,_,_⟩:=(DD.out wr BW.out).goto i Gb;have hil:(i:Int)<(T.acts.length:Int):=by omega
     have hig:(i:Int)<(T.goto.length:Int):=by omega
     have FX:=af (FA.out i hlt);have GX:=af (FG.out i Gb);have AS:=af (fun e=>nG A.out hlt e);have GS:=af (fun e=>nG G.out Gb e);have iJ:=HA.out i hlt;have hl2:=HG.out i Gb;have PP:=af p1;have QQ:=af q1;subst eaA eaG;clear p1 q1;generalize T.acts[i]=row at*;generalize T.goto[i]=og at*;have hw:IntKind.i64.wrap ((row.length:Int)-1)=(row.length:Int)-1:=by rw[IntKind.wrap_i64];omega
     by_cases c1:(row.length:Int)<1
     ·have F2:=af (FX.out (by unfold mP;rw[decide_eq_false (by omega)];rfl));have d1:decide ((row.length:Int)<1)=true:=decide_eq_true c1;clear iJ hl2;go_wp2_with fail;go_quiet (fail);go_wp2_with fail;go_ret;exact⟨Gr.aU F2.out,BW.out.trans ⟨rfl,rfl,rfl,Nat.le_refl _,fun _ _=>rfl⟩⟩
     have d1:decide ((row.length:Int)<1)=false:=decide_eq_false c1
     by_cases c2:(row.length:Int)-1=T.terms
     rotate_left
     ·have F2:=af (FX.out (by unfold mP;rw[decide_eq_false c2];rfl));have d2:((row.length:Int)-1 != T.terms)=true:=by rw[bne_iff_ne];exact c2
      clear iJ hl2;go_wp2_with fail;go_quiet (fail);go_wp2_with fail;go_ret;exact⟨Gr.aU F2.out,BW.out.trans ⟨rfl,rfl,rfl,Nat.le_refl _,fun _ _=>rfl⟩⟩
     have d2:((row.length:Int)-1 != T.terms)=false:=by rw[c2];simp
     by_cases c3:(og.length:Int)=T.ah
     rotate_left
     ·have F2:=af (GX.out (by unfold fV;rw[decide_eq_false c3];rfl));have d3:((og.length:Int) != T.ah)=true:=by rw[bne_iff_ne];exact c3
      have C2:=af c2;clear iJ hl2 c2;go_wp2_with fail;go_quiet (fail);go_wp2_with fail;go_ret;exact⟨Gr.aU F2.out,BW.out.trans ⟨rfl,rfl,rfl,Nat.le_refl _,fun _ _=>rfl⟩⟩
     have d3:((og.length:Int) != T.ah)=false:=by rw[c3];simp
     have C2:=af c2;have C3:=af c3;clear c2 c3;go_wp2_with fail;go_quiet (fail);have BQ:=af (show Below wr.heap.size wr (wr.drewN nq)from⟨rfl,rfl,rfl,Nat.le_refl _,fun _ _=>rfl⟩);go_wp2_with fail;generalize wr.drewN nq=w5 at*;have D5:=af (Gr.step BA.out BQ.out);have E5:=af (Gr.step B3.out BQ.out);have W5:=af (Gr.step BW.out BQ.out);have p5:=cell_later BQ.out p0;have q5:=cell_later BQ.out q0;have AX:=af (fun k (h:(row.take k).all (kQ T.acts.length T.rules.length)=true) (hk:¬k<row.length)=>AS.out (by unfold mP;rw[ku h hk,Bool.and_true,decide_eq_true_eq];exact C2.out));have Zy:=af (fun k (h:(og.take k).all (nu T.acts.length)=true) (hk:¬k<og.length)=>GS.out (by unfold fV;rw[ku h hk,Bool.and_true,decide_eq_true_eq];exact C3.out));have Pp:=af (fun k (hk:k<row.length) (e:kQ T.acts.length T.rules.length row[k]=false)=>(show g=false from FX.out (by unfold mP;rw[kq hk e,Bool.and_false])));have Zz:=af (fun k (hk:k<og.length) (e:nu T.acts.length og[k]=false)=>(show g=false from GX.out (by unfold fV;rw[kq hk e,Bool.and_false])));have Qb:=af (PP.out.went BQ.out);have QQ5:=af (QQ.out.went BQ.out);clear z0 z1 z2 z3 z4 p0 q0 d1 d2 d3 hw BQ FX GX AS GS PP QQ c1 FA FG;go_loopw [5] (fun v wz=>∃t:Nat,v=.int .i64 (t:Int)/\t<=row.length/\(row.take t).all (kQ T.acts.length T.rules.length)=true/\Below w5.heap.size w5 wz) (fun v _=>row.length-(intOf v).toNat)
     case atStart=>exact⟨0,rfl,Nat.zero_le _,nI _ _,.refl _ _⟩
     case round=>
      obtain⟨t,rfl,htl,hT,jm⟩:=hrel;have K:=af jm;have TT:=af hT;have WK:=af (Gr.step W5.out jm);clear hT;have p6:=cell_later jm p5;have q6:=cell_later jm q5;obtain⟨z0,z1,z2,z3,z4⟩:=Z1.out.went (Gr.step D5.out jm)
      by_cases cx:t<row.length
      ·obtain⟨r1,o1,rfl,m0,m1⟩:=(Qb.out.went jm).at t cx;have xU:(t:Int)<(row.length:Int):=by omega
       have nP:=af (Pp.out t cx);have TS:=af (fun e=>nG TT.out cx e);clear jm;generalize row[t]=x at*;obtain⟨x1,x2⟩:=x;dsimp only at m0 m1;have RX:=af (fun w1=>RA.out w1 (x1,x2))
       have HQ:=af (show∀w',Below wr.heap.size wr w'->w'.cell? ⟨w.heap.size,0,none⟩=some (.slice aR T.rules.length cR)/\w'.cell? ⟨w.heap.size,1,none⟩=some (.int .i64 T.terms)/\w'.cell? ⟨w.heap.size,2,none⟩=some (.int .i64 T.ah)/\w'.cell? ⟨w.heap.size,3,none⟩=some (.slice (some ⟨b,o,none⟩) T.acts.length cA)/\w'.cell? ⟨w.heap.size,4,none⟩=some (.slice (some ⟨b',o',none⟩) T.goto.length cG)/\
         w'.cell? ⟨b,o+i,none⟩=some (.slice (some ⟨r1,o1,none⟩) row.length c)/\w'.cell? ⟨r1,o1+t*2,none⟩=some (.int .i64 x1)/\w'.cell? ⟨r1,o1+t*2+1,none⟩=some (.int .i64 x2)/\Below wr.heap.size wr w' from
        fun w' hb=>⟨cell_later hb z0,cell_later hb z1,cell_later hb z2,cell_later hb z3,cell_later hb z4,cell_later hb p6,cell_later hb m0,cell_later hb m1,hb⟩)
       have gh:=drawn wr;have HL:=af cx;have HL1:=af iJ;clear q6 cx iJ hl2;generalize hok:kQ T.acts.length T.rules.length (x1,x2)=ok at*;have HOK:=af hok;clear hok;go_wp2_with fail
       go_region_held3 (fun w'=>w'.cell? ⟨w.heap.size,0,none⟩=some (.slice aR T.rules.length cR)/\w'.cell? ⟨w.heap.size,1,none⟩=some (.int .i64 T.terms)/\w'.cell? ⟨w.heap.size,2,none⟩=some (.int .i64 T.ah)/\w'.cell? ⟨w.heap.size,3,none⟩=some (.slice (some ⟨b,o,none⟩) T.acts.length cA)/\w'.cell? ⟨w.heap.size,4,none⟩=some (.slice (some ⟨b',o',none⟩) T.goto.length cG)/\
         w'.cell? ⟨b,o+i,none⟩=some (.slice (some ⟨r1,o1,none⟩) row.length c)/\w'.cell? ⟨r1,o1+t*2,none⟩=some (.int .i64 x1)/\w'.cell? ⟨r1,o1+t*2+1,none⟩=some (.int .i64 x2)/\Below wr.heap.size wr w')
        (exact HQ.out _ (by with_reducible assumption))
        (first
         |(go_at_call 65;refine(RX.out _).mono ?_;rintro e wn ⟨rfl,hb⟩;have kB:Below wr.heap.size wr wn:=Gr.step (by with_reducible assumption) hb;clear hb)
         |fail)
       cases ok with
       |true=>
        have T2:=af (TS.out rfl);go_wp2_with fail;go_roundw
        case rel=>exact⟨t+1,by go_num,HL.out,T2.out,Gr.step K.out (by with_reducible assumption)⟩
        case measure=>have:=HL.out;first|(simp[intOf];omega)|omega
       |false=>
        have F2:=af (nP.out rfl);go_wp2_with fail;go_ret;exact⟨Gr.aU F2.out,Gr.step WK.out (by with_reducible assumption)⟩
      ·have A2:=af (AX.out _ TT.out cx);obtain rfl:t=row.length:=by omega
       clear jm;go_wp2_with fail;generalize wr=w6 at*;clear z0 z1 z2 z3 z4 p6 p5 AX Pp Qb;go_loopw [6] (fun v wz=>∃t:Nat,v=.int .i64 (t:Int)/\t<=og.length/\(og.take t).all (nu T.acts.length)=true/\Below w6.heap.size w6 wz) (fun v _=>og.length-(intOf v).toNat)
       case atStart=>exact⟨0,rfl,Nat.zero_le _,nI _ _,.refl _ _⟩
       case round=>
        obtain⟨t,rfl,htl,hT,jm⟩:=hrel;have K6:=af (Gr.step K.out jm);have L6:=af jm;have Qh:=af hT;have Qj:=af (Gr.step WK.out jm);clear hT;have q7:=cell_later jm q6;obtain⟨z0,z1,z2,z3,z4⟩:=Z1.out.went (Gr.step D5.out K6.out)
        by_cases cx:t<og.length
        ·obtain⟨r1,o1,rfl,m0⟩:=((QQ5.out.went K.out).went jm).at cx;have xU:(t:Int)<(og.length:Int):=by omega
         have nP:=af (Zz.out t cx);have TS:=af (fun e=>nG Qh.out cx e);clear jm;generalize og[t]=y at*
         by_cases y1:y< -1
         ·have F2:=af (nP.out (by unfold nu;rw[decide_eq_false_iff_not];omega));have d1:decide (y< -1)=true:=decide_eq_true y1;go_wp2_with fail;go_quiet (fail);go_wp2_with fail;go_ret;exact⟨Gr.aU F2.out,Qj.out.trans ⟨rfl,rfl,rfl,Nat.le_refl _,fun _ _=>rfl⟩⟩
         have d1:decide (y< -1)=false:=decide_eq_false y1
         by_cases y2:(T.acts.length:Int)<=y
         ·have F2:=af (nP.out (by unfold nu;rw[decide_eq_false_iff_not];omega));go_wp2_with fail;go_quiet (fail);go_wp2_with fail;go_ret;exact⟨Gr.aU F2.out,Qj.out.trans ⟨rfl,rfl,rfl,Nat.le_refl _,fun _ _=>rfl⟩⟩
         have T2:=af (TS.out (by unfold nu;rw[decide_eq_true_iff];omega));go_wp2_with fail;go_quiet (fail);go_wp2_with fail;go_roundw
         case rel=>exact⟨t+1,by go_num,by omega,T2.out,L6.out.trans ⟨rfl,rfl,rfl,Nat.le_refl _,fun _ _=>rfl⟩⟩
         case measure=>first|(simp[intOf];omega)|omega
        ·have G2:=af (Zy.out _ Qh.out cx);obtain rfl:t=og.length:=by omega
         clear jm;go_wp2_with fail;go_roundw
         case rel=>exact⟨i+1,by go_num,by omega,A2.out,G2.out,Gr.step E5.out K6.out⟩
         case measure=>first|(simp[intOf];omega)|omega
    ·have F2:=af (Zt.out i A.out G.out hlt);obtain rfl:i=T.acts.length:=by omega
     go_wp2_with fail;go_ret;exact⟨Gr.aU F2.out,BW.out⟩
