/- A part of the proof. -/
import Derived.Test.YtkcaedinfnajaaaGreatDoorPk22
set_option maxHeartbeats 4000000
set_option maxRecDepth 100000
set_option linter.unusedVariables false
namespace Go.Proofs.YtkcaedinfnajaaaGreatDoor
open Go.RowKit Go.Maps
namespace Pk
open Gr (cell_later boxed)
theorem zDZ(P:Pd)(aR:Option Addr)(cR:Nat)(aW:Option Addr)(cW:Nat)(aX:Option Addr)(cX:Nat)(aG:Option Addr)(cG:Nat)(aH:Option Addr)(cH:Nat)(w:World):
  Calls Tryz.prog 46 #[.agg (pvs P aR cR aW cW aX cX aG cG aH cH)] w (fun e w'=>e=.returned (.int .i64 (tm P.terms))/\Gw w w'):=by
 have B:=zVZ ((Gw.refl w).alloc (.cells (pvs P aR cR aW cW aX cX aG cG aH cH) 32));obtain⟨z0,z1,z2,z3,z4,z5,z6⟩:=zBO (P:=P) (aR:=aR) (cR:=cR) (aW:=aW) (cW:=cW) (aX:=aX) (cX:=cX) (aG:=aG) (cG:=cG) (aH:=aH) (cH:=cH) w 32;unfold pvs at*;generalize P.terms=n at*;go_enter Tryz.func46,Tryz.ntmps46;go_wp2
 all_goals
  go_ret;refine⟨Gr.zAc ?_,B.out⟩;unfold tm;omega
theorem zHr(L:List Int)(a:Option Addr)(c:Nat)(w:World)(h:IntA a L w)(hl:L.length<=17592186044416)(i z:Int):
  Calls Tryz.prog 48 #[.slice a L.length c,.int .i64 i,.int .i64 z] w (fun e w'=>e=.returned (.int .i64 (pick L z i))/\w'=w):=by
 by_cases hi:0<=i/\i<(L.length:Int)
 ·obtain⟨n,rfl⟩:∃n:Nat,i=(n:Int):=⟨i.toNat,by omega⟩;have hn:n<L.length:=by omega
  obtain⟨b,o,rfl,p0⟩:=h.at hn;rw[zDF L z hn];generalize L[n]=x at*;clear h;have h0:¬((n:Int)<0):=by omega
  have h1:¬((L.length:Int)<=(n:Int)):=by omega
  have h2:(n:Int)<(L.length:Int):=by omega
  go_enter Tryz.func48,Tryz.ntmps48;go_wp2;go_ret;exact⟨rfl,rfl⟩
 ·rw[zBX L z hi];clear h
  by_cases h0:i<0
  ·go_enter Tryz.func48,Tryz.ntmps48;go_wp2;go_ret;exact⟨rfl,rfl⟩
  ·have h1:(L.length:Int)<=i:=by omega
   go_enter Tryz.func48,Tryz.ntmps48;go_wp2;go_ret;exact⟨rfl,rfl⟩
theorem zHt(L:List Int)(a:Option Addr)(c:Nat)(w:World)(h:CodA a L w)(hl:L.length<=35184372088832)(i z:Int):
  Calls Tryz.prog 49 #[.slice a L.length c,.int .i64 i,.int .u16 z] w (fun e w'=>e=.returned (.int .u16 (pick L z i))/\w'=w):=by
 by_cases hi:0<=i/\i<(L.length:Int)
 ·obtain⟨n,rfl⟩:∃n:Nat,i=(n:Int):=⟨i.toNat,by omega⟩;have hn:n<L.length:=by omega
  obtain⟨b,o,rfl,p0⟩:=h.at hn;rw[zDF L z hn];generalize L[n]=x at*;clear h;have h0:¬((n:Int)<0):=by omega
  have h1:¬((L.length:Int)<=(n:Int)):=by omega
  have h2:(n:Int)<(L.length:Int):=by omega
  go_enter Tryz.func49,Tryz.ntmps49;go_wp2;go_ret;exact⟨rfl,rfl⟩
 ·rw[zBX L z hi];clear h
  by_cases h0:i<0
  ·go_enter Tryz.func49,Tryz.ntmps49;go_wp2;go_ret;exact⟨rfl,rfl⟩
  ·have h1:(L.length:Int)<=i:=by omega
   go_enter Tryz.func49,Tryz.ntmps49;go_wp2;go_ret;exact⟨rfl,rfl⟩
theorem zHs(X:List (List Int))(a:Option Addr)(c:Nat)(w:World)(h:zIB a X w)(hl:X.length<=8796093022208)(i:Int):
  ∃ra rc,CodA ra (pick X [] i) w/\(pick X [] i).length<=35184372088832/\∀w1,Below w.heap.size w w1->Calls Tryz.prog 47 #[.slice a X.length c,.int .i64 i,.slice none 0 0] w1 (fun e w'=>e=.returned (.slice ra (pick X [] i).length rc)/\w'=w1):=by
 by_cases hi:0<=i/\i<(X.length:Int)
 ·obtain⟨n,rfl⟩:∃n:Nat,i=(n:Int):=⟨i.toNat,by omega⟩;have hn:n<X.length:=by omega
  rw[zDF X [] hn];obtain⟨b,o,ra,rc,rfl,p0,hr,_,hl2⟩:=h n hn;refine⟨ra,rc,hr,hl2,fun w1 hb=>?_⟩;replace p0:=cell_later hb p0;generalize X[n].length=l at*;clear h hr;have h0:¬((n:Int)<0):=by omega
  have h1:¬((X.length:Int)<=(n:Int)):=by omega
  have h2:(n:Int)<(X.length:Int):=by omega
  go_enter Tryz.func47,Tryz.ntmps47;go_wp2;go_ret;exact⟨rfl,rfl⟩
 ·rw[zBX X [] hi];refine⟨none,0,.nil _ _,by simp,fun w1 hb=>?_⟩;clear h
  by_cases h0:i<0
  ·go_enter Tryz.func47,Tryz.ntmps47;go_wp2;go_ret;exact⟨rfl,rfl⟩
  ·have h1:(X.length:Int)<=i:=by omega
   go_enter Tryz.func47,Tryz.ntmps47;go_wp2;go_ret;exact⟨rfl,rfl⟩
theorem zIb{P:Program}{f:FuncId}{args:Array Value}{w:World}{v:Value}(h:Calls P f args w (fun e w'=>e=.returned v/\w'=w)):Calls P f args w (fun e w'=>e=.returned v/\Gw w w'):=h.mono fun e w' h=>⟨h.1,0,#[],by rw[Go.Sort.grow_empty];exact h.2⟩
theorem zNk{L:List Int}(h:∀c∈L,Cd c)(i:Int):Cd (pick L 0 i):=by
 unfold pick;split
 ·rename_i hi;have:i.toNat<L.length:=by omega
  rw[List.getD_eq_getElem?_getD,List.getElem?_eq_getElem this];exact h _ (List.getElem_mem _)
 ·unfold Cd;omega
theorem zJ1{X:List (List Int)}(h:∀r∈X,∀c∈r,Cd c)(i:Int):∀c∈pick X [] i,Cd c:=by
 unfold pick;split
 ·rename_i hi;have:i.toNat<X.length:=by omega
  rw[List.getD_eq_getElem?_getD,List.getElem?_eq_getElem this];exact h _ (List.getElem_mem _)
 ·intro c hc;cases hc
theorem zJz(P:Pd)(aR:Option Addr)(cR:Nat)(aW:Option Addr)(cW:Nat)(aX:Option Addr)(cX:Nat)(aG:Option Addr)(cG:Nat)(aH:Option Addr)(cH:Nat)(w:World)(D:PAt P aR cR aW cW aX cX aG cG aH cH w)(i t:Int):
  Calls Tryz.prog 16 #[.agg (pvs P aR cR aW cW aX cX aG cG aH cH),.int .i64 i,.int .i64 t] w (Gr.Is (av (zIw P i t)) w):=by
 have TE:=zVZ (fun w1=>zDZ P aR cR aW cW aX cX aG cG aH cH w1);have PI:=zVZ (fun w1 (b:Below w.heap.size w w1)=>zIb (zHr P.row aW cW w1 (D.went b).row D.wl i (-1)));obtain⟨ra,rc,hra,hrl,hpk⟩:=zHs P.rows aX cX w D.rows D.xl (pick P.row (-1) i);have PR:=zVZ (fun w1 (b:Below w.heap.size w w1)=>zIb (hpk w1 b));have PU:=zVZ (fun w1 (b:Below w.heap.size w w1)=>zHt (pick P.rows [] (pick P.row (-1) i)) ra rc w1 (hra.went b) hrl t 0);have hcd:=zNk (zJ1 D.fit.rows (pick P.row (-1) i)) t;have AC:=zVZ (fun w1=>zDl (pick (pick P.rows [] (pick P.row (-1) i)) 0 t) hcd w1);have b1:=boxed w (.cells (pvs P aR cR aW cW aX cX aG cG aH cH) 32);have b2:=boxed (w.alloc (.cells (pvs P aR cR aW cW aX cX aG cG aH cH) 32)) (.cells #[.int .i64 0,.int .i64 0] 47);have B2:=zVZ (Gr.step b1 b2);have Z:=zVZ ((zBO (P:=P) (aR:=aR) (cR:=cR) (aW:=aW) (cW:=cW) (aX:=aX) (cX:=cX) (aG:=aG) (cG:=cG) (aH:=aH) (cH:=cH) w 32).went b2);have Y:=zVZ (zAm (w.alloc (.cells (pvs P aR cR aW cW aX cX aG cG aH cH) 32)) (.cells #[.int .i64 0,.int .i64 0] 47));rw[World.size_alloc]at Y;have AP:=zVZ (show zIw P i t=if tm P.terms<t then(0,0)else zAb (pick (pick P.rows [] (pick P.row (-1) i)) 0 t)from rfl);have mixed:Tryz.prog.follows .mixedOrders=true:=by kernel_rfl
 generalize zIw P i t=x at*;clear D b1 b2 hra hpk hcd hrl;generalize pick P.rows [] (pick P.row (-1) i)=row at*;generalize pick P.row (-1) i=ri at*;generalize pick row 0 t=cc at*;generalize tm P.terms=tn at*;obtain⟨z0,z1,z2,z3,z4,z5,z6⟩:=Z.out;unfold pvs at*;go_enter Tryz.func16,Tryz.ntmps16;go_wp2_with fail;generalize (w.alloc (.cells #[.slice aR P.rules.length cR,.int .i64 P.terms,.int .i64 P.nons,.slice aW P.row.length cW,.slice aX P.rows.length cX,.slice aG P.gow.length cG,.slice aH P.gows.length cH] 32)).alloc (.cells #[.int .i64 0,.int .i64 0] 47)=w2 at*;refine(TE.out _).mono ?_;rintro e w3 ⟨rfl,hg3⟩;have hb3:=hg3.below;have B3:=zVZ (Gr.step B2.out hb3);have Z3:=zVZ (Z.out.went hb3);have Y3:=zVZ ((hb3.block _ (Array.getElem?_eq_some_iff.1 Y.out).1).trans Y.out);clear z0 z1 z2 z3 z4 z5 z6 hb3 hg3 Y Z B2;obtain⟨z0,z1,z2,z3,z4,z5,z6⟩:=Z3.out
 by_cases ht:tn<t
 ·have e:=AP.out;rw[if_pos ht]at e;subst e;have y0:=zAA Y3.out (k:=0) (by simp);have y1:=zAA Y3.out (k:=1) (by simp);have f0:=zAK (k:=0) Y3.out;have f1:=zAK (k:=1) Y3.out;have hlt:w.heap.size+1<w3.heap.size:=(Array.getElem?_eq_some_iff.1 Y3.out).1;have BE:=zVZ ((B3.out.setCell (p:=⟨w.heap.size+1,0,none⟩) (Nat.le_succ _) (.int .i64 0)).setCell (p:=⟨w.heap.size+1,1,none⟩) (Nat.le_succ _) (.int .i64 0));have Y4:=zAP (k:=1) (zAP (k:=0) Y3.out (.int .i64 0)) (.int .i64 0);have r0:=zAA Y4 (k:=0) (by simp);have r1:=zAA Y4 (k:=1) (by simp);simp only[Array.setIfInBounds,List.set_toArray]at r0 r1;clear Y3 Y4 Z3;go_wp2;exact bodyPost_ret (v:=.agg #[.int .i64 0,.int .i64 0]) (by simp[results,Tryz.results16,go_sem,r0,r1]) rfl ⟨rfl,BE.out⟩
 ·have e:=AP.out;rw[if_neg ht]at e;subst e;generalize zAb cc=x at*;obtain⟨x1,x2⟩:=x;go_wp2_with fail;have hGw:∀m os,Gw w3 (Go.Sort.grow (w3.drewN m) os):=fun m os=>⟨m,os,rfl⟩
  have k3:∀m os,(Go.Sort.grow (w3.drewN m) os).cell? ⟨w.heap.size,3,none⟩=some (.slice aW P.row.length cW):=fun m os=>cell_later (hGw m os).below z3
  have k4:∀m os,(Go.Sort.grow (w3.drewN m) os).cell? ⟨w.heap.size,4,none⟩=some (.slice aX P.rows.length cX):=fun m os=>cell_later (hGw m os).below z4
  have PIG:=zVZ (fun m os=>PI.out (Go.Sort.grow (w3.drewN m) os) (Gr.step B3.out (hGw m os).below));have PRG:=zVZ (fun m os=>PR.out (Go.Sort.grow (w3.drewN m) os) (Gr.step B3.out (hGw m os).below));refine wp_region_quiet_grown (by assumption) (by kernel_rfl) ?_
  repeat(first|go_big_quiet_skip|(go_big_quiet_want;go_big_quiet_op;first|go_big_quiet_on|go_big_quiet_call (first|(go_at_call 48;refine Calls.grown_of (PIG.out _ _))|(go_at_call 47;refine Calls.grown_of (PRG.out _ _))))|quiet_step (first|(go_at_call 48;refine Calls.grown_of (PIG.out _ _))|(go_at_call 47;refine Calls.grown_of (PRG.out _ _))))
  refine wpQuiet_nil ?_;intro _ hw';obtain⟨⟨nq,osq⟩,hw''⟩:=hw';subst hw'';have B4:=zVZ (Gr.step B3.out (hGw nq osq).below);have Y4:=zVZ (((hGw nq osq).below.block _ (Array.getElem?_eq_some_iff.1 Y3.out).1).trans Y3.out);clear hGw k3 k4 PIG PRG z0 z1 z2 z3 z4 z5 z6 Y3 Z3;generalize Go.Sort.grow (w3.drewN nq) osq=w4 at*;go_wp2_with fail;refine(PU.out _ B4.out).mono ?_;rintro e w5 ⟨rfl,hw5⟩;obtain rfl:=hw5;go_wp2_with fail;refine(AC.out _).mono ?_;rintro e w6 ⟨rfl,hb6⟩;have B6:=zVZ (Gr.step B4.out hb6);have Y6:=(hb6.block _ (Array.getElem?_eq_some_iff.1 Y4.out).1).trans Y4.out;have y0:=zAA Y6 (k:=0) (by simp);have y1:=zAA Y6 (k:=1) (by simp);have f0:=zAK (k:=0) Y6;have f1:=zAK (k:=1) Y6;have hlt:w.heap.size+1<w6.heap.size:=(Array.getElem?_eq_some_iff.1 Y6).1;have BE:=zVZ ((B6.out.setCell (p:=⟨w.heap.size+1,0,none⟩) (Nat.le_succ _) (.int .i64 x1)).setCell (p:=⟨w.heap.size+1,1,none⟩) (Nat.le_succ _) (.int .i64 x2));have Y7:=zAP (k:=1) (zAP (k:=0) Y6 (.int .i64 x1)) (.int .i64 x2);have r0:=zAA Y7 (k:=0) (by simp);have r1:=zAA Y7 (k:=1) (by simp);simp only[Array.setIfInBounds,List.set_toArray]at r0 r1;clear Y4 Y6 Y7 hb6;dsimp only at*;go_wp2;exact bodyPost_ret (v:=.agg #[.int .i64 x1,.int .i64 x2]) (by simp[results,Tryz.results16,go_sem,r0,r1]) rfl ⟨rfl,BE.out⟩
end Pk
namespace Pk
open Gr (cell_later boxed)
theorem zHq(P:Pd)(aR:Option Addr)(cR:Nat)(aW:Option Addr)(cW:Nat)(aX:Option Addr)(cX:Nat)(aG:Option Addr)(cG:Nat)(aH:Option Addr)(cH:Nat)(w:World)(D:PAt P aR cR aW cW aX cX aG cG aH cH w)(i s:Int)(hs9:s<=9223372036854775807):
  Calls Tryz.prog 18 #[.agg (pvs P aR cR aW cW aX cX aG cG aH cH),.int .i64 i,.int .i64 s] w (Gr.Is (.int .i64 (zE6 P i s)) w):=by
 have TE:=zVZ (fun w1=>zDZ P aR cR aW cW aX cX aG cG aH cH w1);have PI:=zVZ (fun w1 (b:Below w.heap.size w w1)=>zIb (zHr P.gow aG cG w1 (D.went b).gow D.gl i (-1)));obtain⟨ra,rc,hra,hrl,hpk⟩:=zHs P.gows aH cH w D.gows D.hl (pick P.gow (-1) i);have PR:=zVZ (fun w1 (b:Below w.heap.size w w1)=>zIb (hpk w1 b));have PU:=zVZ (fun w1 (b:Below w.heap.size w w1)=>zIb (zHt (pick P.gows [] (pick P.gow (-1) i)) ra rc w1 (hra.went b) hrl (s-tm P.terms-1) 0));have hcd:=zNk (zJ1 D.fit.gows (pick P.gow (-1) i)) (s-tm P.terms-1);have TA:=zVZ (fun w1=>zIb (zDz (pick (pick P.gows [] (pick P.gow (-1) i)) 0 (s-tm P.terms-1)) hcd w1));have B1:=zVZ (boxed w (.cells (pvs P aR cR aW cW aX cX aG cG aH cH) 32));have Z1:=zVZ (zBO (P:=P) (aR:=aR) (cR:=cR) (aW:=aW) (cW:=cW) (aX:=aX) (cX:=cX) (aG:=aG) (cG:=cG) (aH:=aH) (cH:=cH) w 32);have hwl:=D.wl;have hgl:=D.gl;have hnf:=D.fit.n;have mixed:Tryz.prog.follows .mixedOrders=true:=by kernel_rfl
 have GT:=zVZ (show zE6 P i s=if s<=tm P.terms\/P.nons<s-tm P.terms then-1 else if((max P.row.length P.gow.length:Nat):Int)<=toOf (pick (pick P.gows [] (pick P.gow (-1) i)) 0 (s-tm P.terms-1))then-1 else toOf (pick (pick P.gows [] (pick P.gow (-1) i)) 0 (s-tm P.terms-1))from rfl);have ht0:0<=tm P.terms:=by unfold tm;omega
 generalize zE6 P i s=g at*;clear D hra hpk hcd hrl;generalize tm P.terms=tn at*;generalize pick P.gows [] (pick P.gow (-1) i)=row at*;generalize pick P.gow (-1) i=ri at*;obtain⟨z0,z1,z2,z3,z4,z5,z6⟩:=Z1.out;unfold pvs at*;go_enter Tryz.func18,Tryz.ntmps18;go_wp2_with fail;generalize w.alloc (.cells #[.slice aR P.rules.length cR,.int .i64 P.terms,.int .i64 P.nons,.slice aW P.row.length cW,.slice aX P.rows.length cX,.slice aG P.gow.length cG,.slice aH P.gows.length cH] 32)=w2 at*;have hGw:∀m os,Gw w2 (Go.Sort.grow (w2.drewN m) os):=fun m os=>⟨m,os,rfl⟩
 have k0:∀m os,(Go.Sort.grow (w2.drewN m) os).cell? ⟨w.heap.size,0,none⟩=some (.slice aR P.rules.length cR):=fun m os=>cell_later (hGw m os).below z0
 have k1:∀m os,(Go.Sort.grow (w2.drewN m) os).cell? ⟨w.heap.size,1,none⟩=some (.int .i64 P.terms):=fun m os=>cell_later (hGw m os).below z1
 have k2:∀m os,(Go.Sort.grow (w2.drewN m) os).cell? ⟨w.heap.size,2,none⟩=some (.int .i64 P.nons):=fun m os=>cell_later (hGw m os).below z2
 have k3:∀m os,(Go.Sort.grow (w2.drewN m) os).cell? ⟨w.heap.size,3,none⟩=some (.slice aW P.row.length cW):=fun m os=>cell_later (hGw m os).below z3
 have k4:∀m os,(Go.Sort.grow (w2.drewN m) os).cell? ⟨w.heap.size,4,none⟩=some (.slice aX P.rows.length cX):=fun m os=>cell_later (hGw m os).below z4
 have k5:∀m os,(Go.Sort.grow (w2.drewN m) os).cell? ⟨w.heap.size,5,none⟩=some (.slice aG P.gow.length cG):=fun m os=>cell_later (hGw m os).below z5
 have k6:∀m os,(Go.Sort.grow (w2.drewN m) os).cell? ⟨w.heap.size,6,none⟩=some (.slice aH P.gows.length cH):=fun m os=>cell_later (hGw m os).below z6
 have TG:=zVZ (fun m os=>TE.out (Go.Sort.grow (w2.drewN m) os))
 by_cases h1:s<=tn
 ·have hd:decide (s<=tn)=true:=decide_eq_true h1;have G2:=zVZ (show g= -1 by rw[GT.out,if_pos (.inl h1)]);clear GT;refine wp_region_quiet_grown (by assumption) (by kernel_rfl) ?_
  repeat(first|go_big_quiet_skip|(go_big_quiet_want;go_big_quiet_op;first|go_big_quiet_on|go_big_quiet_call (first|(go_at_call 46;refine Calls.grown_of (TG.out _ _))))|quiet_step (first|(go_at_call 46;refine Calls.grown_of (TG.out _ _))))
  refine wpQuiet_nil ?_;intro _ hw';obtain⟨⟨nq,osq⟩,hw''⟩:=hw';subst hw'';have BE:=zVZ (Gr.step B1.out (hGw nq osq).below);clear hGw k0 k1 k2 k3 k4 k5 k6 TG;generalize Go.Sort.grow (w2.drewN nq) osq=w3 at BE⊢;go_wp2;go_ret;exact⟨Gr.zAc G2.out,BE.out⟩
 ·have hd:decide (s<=tn)=false:=decide_eq_false h1;have e2:IntKind.i64.wrap (s-tn)=s-tn:=by rw[IntKind.wrap_i64];omega
  have e4:IntKind.i64.wrap (s-tn-1)=s-tn-1:=by rw[IntKind.wrap_i64];omega
  by_cases h3:P.nons<s-tn
  ·have G2:=zVZ (show g= -1 by rw[GT.out,if_pos (.inr h3)]);clear GT;refine wp_region_quiet_grown (by assumption) (by kernel_rfl) ?_
   repeat(first|go_big_quiet_skip|(go_big_quiet_want;go_big_quiet_op;first|go_big_quiet_on|go_big_quiet_call (first|(go_at_call 46;refine Calls.grown_of (TG.out _ _))))|quiet_step (first|(go_at_call 46;refine Calls.grown_of (TG.out _ _))))
   refine wpQuiet_nil ?_;intro _ hw';obtain⟨⟨nq,osq⟩,hw''⟩:=hw';subst hw'';have BE:=zVZ (Gr.step B1.out (hGw nq osq).below);clear hGw k0 k1 k2 k3 k4 k5 k6 TG;generalize Go.Sort.grow (w2.drewN nq) osq=w3 at BE⊢;go_wp2;go_ret;exact⟨Gr.zAc G2.out,BE.out⟩
  ·have GT:=zVZ (show g= _ by rw[GT.out,if_neg (by omega)]);generalize hk:s-tn-1=k at*;refine wp_region_quiet_grown (by assumption) (by kernel_rfl) ?_
   repeat(first|go_big_quiet_skip|(go_big_quiet_want;go_big_quiet_op;first|go_big_quiet_on|go_big_quiet_call (first|(go_at_call 46;refine Calls.grown_of (TG.out _ _))))|quiet_step (first|(go_at_call 46;refine Calls.grown_of (TG.out _ _))))
   refine wpQuiet_nil ?_;intro _ hw';obtain⟨⟨nq,osq⟩,hw''⟩:=hw';subst hw'';have B3:=zVZ (Gr.step B1.out (hGw nq osq).below);have Z3:=zVZ (Z1.out.went (hGw nq osq).below);clear hGw k0 k1 k2 k3 k4 k5 k6 TG z0 z1 z2 z3 z4 z5 z6;generalize Go.Sort.grow (w2.drewN nq) osq=w3 at*;obtain⟨z0,z1,z2,z3,z4,z5,z6⟩:=Z3.out;go_wp2_with fail;have hGw:∀m os,Gw w3 (Go.Sort.grow (w3.drewN m) os):=fun m os=>⟨m,os,rfl⟩
   have k5:∀m os,(Go.Sort.grow (w3.drewN m) os).cell? ⟨w.heap.size,5,none⟩=some (.slice aG P.gow.length cG):=fun m os=>cell_later (hGw m os).below z5
   have k6:∀m os,(Go.Sort.grow (w3.drewN m) os).cell? ⟨w.heap.size,6,none⟩=some (.slice aH P.gows.length cH):=fun m os=>cell_later (hGw m os).below z6
   have PIG:=zVZ (fun m os=>PI.out (Go.Sort.grow (w3.drewN m) os) (Gr.step B3.out (hGw m os).below));have PRG:=zVZ (fun m os=>PR.out (Go.Sort.grow (w3.drewN m) os) (Gr.step B3.out (hGw m os).below));refine wp_region_quiet_grown (by assumption) (by kernel_rfl) ?_
   repeat(first|go_big_quiet_skip|(go_big_quiet_want;go_big_quiet_op;first|go_big_quiet_on|go_big_quiet_call (first|(go_at_call 48;refine Calls.grown_of (PIG.out _ _))|(go_at_call 47;refine Calls.grown_of (PRG.out _ _))))|quiet_step (first|(go_at_call 48;refine Calls.grown_of (PIG.out _ _))|(go_at_call 47;refine Calls.grown_of (PRG.out _ _))))
   refine wpQuiet_nil ?_;intro _ hw';obtain⟨⟨nq,osq⟩,hw''⟩:=hw';subst hw'';have B4:=zVZ (Gr.step B3.out (hGw nq osq).below);have Z4:=zVZ (Z3.out.went (hGw nq osq).below);clear hGw k5 k6 PIG PRG z0 z1 z2 z3 z4 z5 z6;generalize Go.Sort.grow (w3.drewN nq) osq=w4 at*;obtain⟨z0,z1,z2,z3,z4,z5,z6⟩:=Z4.out;go_wp2_with fail;refine(TE.out _).mono ?_;rintro e w5 ⟨rfl,hg5⟩;have B5:=zVZ (Gr.step B4.out hg5.below);have Z5:=zVZ (Z4.out.went hg5.below);clear z0 z1 z2 z3 z4 z5 z6 hg5;obtain⟨z0,z1,z2,z3,z4,z5,z6⟩:=Z5.out;go_wp2_with fail;refine(PU.out _ B5.out).mono ?_;rintro e w6 ⟨rfl,hg6⟩;have B6:=zVZ (Gr.step B5.out hg6.below);have Z6:=zVZ (Z5.out.went hg6.below);clear z0 z1 z2 z3 z4 z5 z6 hg6;obtain⟨z0,z1,z2,z3,z4,z5,z6⟩:=Z6.out;go_wp2_with fail;refine(TA.out _).mono ?_;rintro e w7 ⟨rfl,hg7⟩;have BE:=zVZ (Gr.step B6.out hg7.below);have Z7:=zVZ (Z6.out.went hg7.below);clear z0 z1 z2 z3 z4 z5 z6 hg7;obtain⟨z0,z1,z2,z3,z4,z5,z6⟩:=Z7.out;generalize toOf (pick row 0 k)=x at*;have hm:max (P.row.length:Int) (P.gow.length:Int)=((max P.row.length P.gow.length:Nat):Int):=by omega
   by_cases h6:((max P.row.length P.gow.length:Nat):Int)<=x
   ·have G2:=zVZ (show g= -1 by rw[GT.out,if_pos h6]);clear GT;go_wp2_with fail
    all_goals
     go_ret;exact⟨Gr.zAc G2.out,BE.out⟩
   ·have G2:=zVZ (show g=x by rw[GT.out,if_neg h6]);clear GT;have h7:x<((max P.row.length P.gow.length:Nat):Int):=by omega
    go_wp2_with fail
    all_goals
     go_ret;exact⟨Gr.zAc G2.out,BE.out⟩
end Pk
namespace Pk
open Gr (boxed)
theorem zGo{α:Type}{X:List (List α)}{n:Nat}(h:∀r∈X,r.length<=n){i:Nat}(hi:i<X.length):X[i].length<=n:=h _ (List.getElem_mem hi)
theorem zHy(T:Tb)(aR:Option Addr)(cR:Nat)(aA:Option Addr)(cA:Nat)(aG:Option Addr)(cG:Nat)(w:World)(S:TSm T)(x:Int×Int):
  Calls Tryz.prog 77 #[.agg (tvs T aR cR aA cA aG cG),av x] w (Gr.Is (.bool (okA T.acts.length T.rules.length x)) w):=by
 obtain⟨x1,x2⟩:=x;have b1:=boxed w (.cells (tvs T aR cR aA cA aG cG) 26);have b2:=boxed (w.alloc (.cells (tvs T aR cR aA cA aG cG) 26)) (.cells #[.int .i64 x1,.int .i64 x2] 47);have B2:=zVZ (Gr.step b1 b2);obtain⟨z0,z1,z2,z3,z4⟩:=(zA4 (T:=T) (aR:=aR) (cR:=cR) (aA:=aA) (cA:=cA) (aG:=aG) (cG:=cG) w 26).went b2;have Y:=zAm (w.alloc (.cells (tvs T aR cR aA cA aG cG) 26)) (.cells #[.int .i64 x1,.int .i64 x2] 47);rw[World.size_alloc]at Y;have y0:=zAA Y (k:=0) (by simp);have y1:=zAA Y (k:=1) (by simp);have h1:=S.rl;have h2:=S.al;have hw:IntKind.i64.wrap ((T.rules.length:Int)-1)=(T.rules.length:Int)-1:=by rw[IntKind.wrap_i64];omega
 clear b1 b2 Y S;unfold tvs at*;go_enter Tryz.func77,Tryz.ntmps77;go_wp2
 all_goals
  go_ret;refine⟨Gr.zAF ?_,B2.out⟩;go_light;unfold okA;dsimp only;simp only[beq_iff_eq,beq_eq_false_iff_ne,ne_eq]at*
  try rw[hw]
  first|(rw[decide_eq_true_iff];omega)|(rw[decide_eq_false_iff_not];omega)|(rw[Bool.eq_iff_iff];simp only[decide_eq_true_eq,beq_iff_eq];omega)
theorem zGn(T:Tb)(aR:Option Addr)(cR:Nat)(aA:Option Addr)(cA:Nat)(aG:Option Addr)(cG:Nat)(w:World)(D:TAt T aR cR aA cA aG cG w)(S:TSm T):
  Calls Tryz.prog 53 #[.agg (tvs T aR cR aA cA aG cG)] w (Gr.Is (.bool (zFT T)) w):=by
 have B1:=zVZ (boxed w (.cells (tvs T aR cR aA cA aG cG) 26));have Z1:=zVZ (zA4 (T:=T) (aR:=aR) (cR:=cR) (aA:=aA) (cA:=cA) (aG:=aG) (cG:=cG) w 26);have RA:=zVZ (fun w1 x=>zHy T aR cR aA cA aG cG w1 S x);have DD:=zVZ (fun w1 (b:Below w.heap.size w w1)=>(D.went b).acts);have FT:=zVZ (fun i (hi:i<T.acts.length) (e:zGi T.acts.length T.rules.length T.terms T.acts[i]=false)=>(show zFT T=false from zAq hi e));have FE:=zVZ (fun i (h:(T.acts.take i).all (zGi T.acts.length T.rules.length T.terms)=true) (hi:¬i<T.acts.length)=>(show zFT T=true from zBC h hi));have HL:=zVZ (fun i (hi:i<T.acts.length)=>zGo S.ar hi);have hal:=S.al;have hrl:=S.rl;generalize zFT T=g at*;clear D S;obtain⟨z0,z1,z2,z3,z4⟩:=Z1.out;unfold tvs at*;go_enter Tryz.func53,Tryz.ntmps53;go_wp2_with fail;generalize w.alloc (.cells #[.slice aR T.rules.length cR,.int .i64 T.terms,.int .i64 T.nons,.slice aA T.acts.length cA,.slice aG T.goto.length cG] 26)=w2 at*;clear z0 z1 z2 z3 z4;go_loopw [10] (fun v wr=>∃i:Nat,v=.int .i64 (i:Int)/\i<=T.acts.length/\(T.acts.take i).all (zGi T.acts.length T.rules.length T.terms)=true/\Below w2.heap.size w2 wr) (fun v _=>T.acts.length-(intOf v).toNat)
 case atStart=>exact⟨0,rfl,Nat.zero_le _,zBW _ _,.refl _ _⟩
 case round=>
  obtain⟨i,rfl,hi,hA,hB⟩:=hrel;have A:=zVZ hA;have B:=zVZ hB;clear hB hA
  by_cases hlt:i<T.acts.length
  ·have BW:=zVZ (Gr.step B1.out B.out);obtain⟨b,o,ra,c,rfl,p0,p1,_,_⟩:=DD.out wr BW.out i hlt;obtain⟨z0,z1,z2,z3,z4⟩:=Z1.out.went B.out;have hil:(i:Int)<(T.acts.length:Int):=by omega
   have FTi:=zVZ (FT.out i hlt);have AS:=zVZ (fun e=>zBV A.out hlt e);have hlen:=HL.out i hlt;have PP:=zVZ p1;clear p1;generalize T.acts[i]=row at*;have hw:IntKind.i64.wrap ((row.length:Int)-1)=(row.length:Int)-1:=by rw[IntKind.wrap_i64];omega
   by_cases hr:(row.length:Int)-1=T.terms
   ·have FX:=zVZ (fun k (hk:k<row.length) (e:okA T.acts.length T.rules.length row[k]=false)=>(show g=false from FTi.out (by unfold zGi;rw[zAq hk e,Bool.and_false])));have AX:=zVZ (fun k (h:(row.take k).all (okA T.acts.length T.rules.length)=true) (hk:¬k<row.length)=>AS.out (by unfold zGi;rw[zBC h hk,Bool.and_true,decide_eq_true_eq];exact hr));go_wp2_with fail;generalize wr=w5 at*;clear z0 z1 z2 z3 z4 p0 FTi AS;go_loopw [22] (fun v wz=>∃t:Nat,v=.int .i64 (t:Int)/\t<=row.length/\(row.take t).all (okA T.acts.length T.rules.length)=true/\Below w5.heap.size w5 wz) (fun v _=>row.length-(intOf v).toNat)
    case atStart=>exact⟨0,rfl,Nat.zero_le _,zBW _ _,.refl _ _⟩
    case round=>
     obtain⟨t,rfl,htl,hT,hB2⟩:=hrel;have K:=zVZ hB2;have TT:=zVZ hT;clear hB2 hT
     by_cases hlt2:t<row.length
     ·obtain⟨rb,ro,rfl,p0,p1⟩:=(PP.out.went K.out).at t hlt2;have FXt:=zVZ (FX.out t hlt2);have TS:=zVZ (fun e=>zBV TT.out hlt2 e);generalize row[t]=x at*;obtain⟨x1,x2⟩:=x;dsimp only at p0 p1;have BN:=zVZ (Gr.step K.out (boxed wr (.cells #[.int .i64 x1,.int .i64 x2] 47)));obtain⟨z0,z1,z2,z3,z4⟩:=Z1.out.went (Gr.step B.out BN.out);have htl2:(t:Int)<(row.length:Int):=by omega
      have RX:=zVZ (fun w1=>RA.out w1 (x1,x2));cases hok:okA T.acts.length T.rules.length (x1,x2)with
      |true=>
       have T2:=zVZ (TS.out hok);rw[hok]at RX;clear hok FXt TS;go_wp2_with (go_at_call 77;refine(RX.out _).mono ?_;rintro e w6 ⟨rfl,hb6⟩;have K6:=zVZ (Gr.step BN.out hb6);clear hb6);go_roundw
       case rel=>exact⟨t+1,by go_num,by omega,T2.out,K6.out⟩
       case measure=>first|(simp[intOf];omega)|omega
      |false=>
       have F2:=zVZ (FXt.out hok);rw[hok]at RX;clear hok FXt TS;go_wp2_with (go_at_call 77;refine(RX.out _).mono ?_;rintro e w6 ⟨rfl,hb6⟩;have K6:=zVZ (Gr.step BW.out (Gr.step BN.out hb6));clear hb6);go_ret;exact⟨Gr.zAF F2.out,K6.out⟩
     ·obtain rfl:t=row.length:=by omega
      have A2:=zVZ (AX.out _ TT.out (by omega));go_wp2_with fail;go_roundw
      case rel=>exact⟨i+1,by go_num,by omega,A2.out,Gr.step B.out K.out⟩
      case measure=>first|(simp[intOf];omega)|omega
   ·have F2:=zVZ (FTi.out (by unfold zGi;rw[decide_eq_false hr];rfl));go_wp2_with fail;go_ret;exact⟨Gr.zAF F2.out,BW.out⟩
  ·have F2:=zVZ (FE.out i A.out hlt);obtain rfl:i=T.acts.length:=by omega
   go_wp2;go_ret;exact⟨Gr.zAF F2.out,Gr.step B1.out B.out⟩
end Pk
namespace Pk
open Gr (boxed)
theorem zEF(T:Tb)(aR:Option Addr)(cR:Nat)(aA:Option Addr)(cA:Nat)(aG:Option Addr)(cG:Nat)(w:World)(D:TAt T aR cR aA cA aG cG w)(S:TSm T):
  Calls Tryz.prog 54 #[.agg (tvs T aR cR aA cA aG cG)] w (Gr.Is (.bool (zFZ T)) w):=by
 have B1:=zVZ (boxed w (.cells (tvs T aR cR aA cA aG cG) 26));have Z1:=zVZ (zA4 (T:=T) (aR:=aR) (cR:=cR) (aA:=aA) (cA:=cA) (aG:=aG) (cG:=cG) w 26);have DD:=zVZ (fun w1 (b:Below w.heap.size w w1)=>(D.went b).goto);have FT:=zVZ (fun i (hi:i<T.goto.length) (e:okTo T.acts.length T.nons T.goto[i]=false)=>(show zFZ T=false from zAq hi e));have FE:=zVZ (fun i (h:(T.goto.take i).all (okTo T.acts.length T.nons)=true) (hi:¬i<T.goto.length)=>(show zFZ T=true from zBC h hi));have HL:=zVZ (fun i (hi:i<T.goto.length)=>zGo S.gr hi);have hal:=S.al;have hgl:=S.gl;generalize zFZ T=g at*;clear D S;obtain⟨z0,z1,z2,z3,z4⟩:=Z1.out;unfold tvs at*;go_enter Tryz.func54,Tryz.ntmps54;go_wp2_with fail;generalize w.alloc (.cells #[.slice aR T.rules.length cR,.int .i64 T.terms,.int .i64 T.nons,.slice aA T.acts.length cA,.slice aG T.goto.length cG] 26)=w2 at*;clear z0 z1 z2 z3 z4;go_loopw [10] (fun v wr=>∃i:Nat,v=.int .i64 (i:Int)/\i<=T.goto.length/\(T.goto.take i).all (okTo T.acts.length T.nons)=true/\Below w2.heap.size w2 wr) (fun v _=>T.goto.length-(intOf v).toNat)
 case atStart=>exact⟨0,rfl,Nat.zero_le _,zBW _ _,.refl _ _⟩
 case round=>
  obtain⟨i,rfl,hi,hA,hB⟩:=hrel;have A:=zVZ hA;have B:=zVZ hB;clear hB hA
  by_cases hlt:i<T.goto.length
  ·have BW:=zVZ (Gr.step B1.out B.out);obtain⟨b,o,ra,c,rfl,p0,p1,_,_⟩:=DD.out wr BW.out i hlt;obtain⟨z0,z1,z2,z3,z4⟩:=Z1.out.went B.out;have hil:(i:Int)<(T.goto.length:Int):=by omega
   have FTi:=zVZ (FT.out i hlt);have AS:=zVZ (fun e=>zBV A.out hlt e);have hlen:=HL.out i hlt;have PP:=zVZ p1;clear p1;generalize T.goto[i]=row at*
   by_cases hr:(row.length:Int)=T.nons
   ·have FX:=zVZ (fun k (hk:k<row.length) (e:okT T.acts.length row[k]=false)=>(show g=false from FTi.out (by unfold okTo;rw[zAq hk e,Bool.and_false])));have AX:=zVZ (fun k (h:(row.take k).all (okT T.acts.length)=true) (hk:¬k<row.length)=>AS.out (by unfold okTo;rw[zBC h hk,Bool.and_true,decide_eq_true_eq];exact hr));go_wp2_with fail;generalize wr=w5 at*;clear z0 z1 z2 z3 z4 p0 FTi AS;go_loopw [21] (fun v wz=>∃t:Nat,v=.int .i64 (t:Int)/\t<=row.length/\(row.take t).all (okT T.acts.length)=true/\Below w5.heap.size w5 wz) (fun v _=>row.length-(intOf v).toNat)
    case atStart=>exact⟨0,rfl,Nat.zero_le _,zBW _ _,.refl _ _⟩
    case round=>
     obtain⟨t,rfl,htl,hT,hB2⟩:=hrel;have K:=zVZ hB2;have TT:=zVZ hT;clear hB2 hT
     by_cases hlt2:t<row.length
     ·obtain⟨rb,ro,rfl,p0⟩:=(PP.out.went K.out).at hlt2;have FXt:=zVZ (FX.out t hlt2);have TS:=zVZ (fun e=>zBV TT.out hlt2 e);generalize row[t]=x at*;obtain⟨z0,z1,z2,z3,z4⟩:=Z1.out.went (Gr.step B.out K.out);have htl2:(t:Int)<(row.length:Int):=by omega
      by_cases hx1:x< -1
      ·have F2:=zVZ (FXt.out (decide_eq_false (by omega)));have K6:=zVZ (Gr.step BW.out K.out);clear FXt TS;go_wp2_with fail;go_ret;exact⟨Gr.zAF F2.out,K6.out⟩
      ·by_cases hx2:(T.acts.length:Int)<=x
       ·have F2:=zVZ (FXt.out (decide_eq_false (by omega)));have K6:=zVZ (Gr.step BW.out K.out);clear FXt TS;go_wp2_with fail;go_ret;exact⟨Gr.zAF F2.out,K6.out⟩
       ·have T2:=zVZ (TS.out (decide_eq_true (by omega)));clear FXt TS;go_wp2_with fail;go_roundw
        case rel=>exact⟨t+1,by go_num,by omega,T2.out,K.out⟩
        case measure=>first|(simp[intOf];omega)|omega
     ·obtain rfl:t=row.length:=by omega
      have A2:=zVZ (AX.out _ TT.out (by omega));go_wp2_with fail;go_roundw
      case rel=>exact⟨i+1,by go_num,by omega,A2.out,Gr.step B.out K.out⟩
      case measure=>first|(simp[intOf];omega)|omega
   ·have F2:=zVZ (FTi.out (by unfold okTo;rw[decide_eq_false hr];rfl));go_wp2_with fail;go_ret;exact⟨Gr.zAF F2.out,BW.out⟩
  ·have F2:=zVZ (FE.out i A.out hlt);obtain rfl:i=T.goto.length:=by omega
   go_wp2;go_ret;exact⟨Gr.zAF F2.out,Gr.step B1.out B.out⟩
end Pk
namespace Pk
open Gr (Fits cell_later boxed)
theorem zIH{c:Int}(h:Cd c):0<=(zAb c).1/\(zAb c).1<=3/\0<=(zAb c).2/\(zAb c).2<16384:=by
 unfold Cd at h;unfold zAb;split<;>dsimp only<;>omega
theorem zGk(P:Pd)(aR:Option Addr)(cR:Nat)(aW:Option Addr)(cW:Nat)(aX:Option Addr)(cX:Nat)(aG:Option Addr)(cG:Nat)(aH:Option Addr)(cH:Nat)(w:World)(hw1:P.row.length<=17592186044416)(hr1:P.rules.length<=4398046511104)(c:Int)(hc:Cd c):
  Calls Tryz.prog 66 #[.agg (pvs P aR cR aW cW aX cX aG cG aH cH),.int .u16 c] w (Gr.Is (.bool (okC P.row.length P.rules.length c)) w):=by
 have B1:=zVZ (boxed w (.cells (pvs P aR cR aW cW aX cX aG cG aH cH) 32));have Z1:=zVZ (zBO (P:=P) (aR:=aR) (cR:=cR) (aW:=aW) (cW:=cW) (aX:=aX) (cX:=cX) (aG:=aG) (cG:=cG) (aH:=aH) (cH:=cH) w 32);have AC:=zVZ (fun w1=>zDl c hc w1);have hs:=zIH hc;have CO:=zVZ (fun w1=>zEW (zAb c) hs w1);have OC:=zVZ (show okC P.row.length P.rules.length c=if(zAb c).1=1 then decide ((zAb c).2<(P.row.length:Int))else if(zAb c).1=2 then decide ((zAb c).2<(P.rules.length:Int)-1)else decide (zBR (zAb c)=c)from rfl);generalize okC P.row.length P.rules.length c=g at*;have hw:IntKind.i64.wrap ((P.rules.length:Int)-1)=(P.rules.length:Int)-1:=by rw[IntKind.wrap_i64];omega
 generalize zBR (zAb c)=cc at*;generalize zAb c=x at*;obtain⟨k,n⟩:=x;dsimp only at OC hs;clear hs;obtain⟨z0,z1,z2,z3,z4,z5,z6⟩:=Z1.out;unfold pvs at*;go_enter Tryz.func66,Tryz.ntmps66;go_wp2_with fail;generalize w.alloc (.cells #[.slice aR P.rules.length cR,.int .i64 P.terms,.int .i64 P.nons,.slice aW P.row.length cW,.slice aX P.rows.length cX,.slice aG P.gow.length cG,.slice aH P.gows.length cH] 32)=w2 at*;refine(AC.out _).mono ?_;rintro e w3 ⟨rfl,hb3⟩;have b4:=boxed w3 (.cells #[.int .i64 k,.int .i64 n] 47);have B4:=zVZ (Gr.step B1.out (Gr.step hb3 b4));have Z4:=zVZ (Z1.out.went (Gr.step hb3 b4));have Y4:=zAm w3 (.cells #[.int .i64 k,.int .i64 n] 47);have y0:=zAA Y4 (k:=0) (by simp);have y1:=zAA Y4 (k:=1) (by simp);simp only[List.getElem_toArray,List.getElem_cons_zero,List.getElem_cons_succ]at y0 y1;clear z0 z1 z2 z3 z4 z5 z6 hb3 b4 Z1 B1 Y4 AC;obtain⟨z0,z1,z2,z3,z4,z5,z6⟩:=Z4.out
 by_cases h1:k=1
 ·have G2:=zVZ (show g=decide (n<(P.row.length:Int))by rw[OC.out,if_pos h1]);subst h1;clear OC CO;go_wp2_with fail;go_ret;exact⟨Gr.zAF G2.out,B4.out⟩
 have hb1:(k==1)=false:=by rw[beq_eq_false_iff_ne];exact h1
 by_cases h2:k=2
 ·have G2:=zVZ (show g=decide (n<(P.rules.length:Int)-1)by rw[OC.out,if_neg h1,if_pos h2]);subst h2;clear OC CO;go_wp2_with fail;go_ret;exact⟨Gr.zAF G2.out,B4.out⟩
 have hb2:(k==2)=false:=by rw[beq_eq_false_iff_ne];exact h2
 have G2:=zVZ (show g=decide (cc=c)by rw[OC.out,if_neg h1,if_neg h2]);clear OC;go_wp2_with fail;generalize w3.alloc (.cells #[.int .i64 k,.int .i64 n] 47)=w4 at*;refine(CO.out _).mono ?_;rintro e w5 ⟨rfl,hb5⟩;have B5:=zVZ (Gr.step B4.out hb5);clear hb5;go_wp2_with fail;go_ret;refine⟨Gr.zAF ?_,B5.out⟩;rw[G2.out,Bool.eq_iff_iff,decide_eq_true_iff,beq_iff_eq]
theorem zN0(P:Pd)(aR:Option Addr)(cR:Nat)(aW:Option Addr)(cW:Nat)(aX:Option Addr)(cX:Nat)(aG:Option Addr)(cG:Nat)(aH:Option Addr)(cH b:Nat)(w:World)(Z:PBox P aR cR aW cW aX cX aG cG aH cH b w)(ht:0<=P.terms)(x:Int)(l:List Int)(a:Option Addr)(c:Nat)(hx:x<=9223372036854775807):
  Calls Tryz.prog 63 #[.agg #[.int .i64 x,.slice a l.length c],.pointer (some ⟨b,0,none⟩)] w (Gr.Is (.bool (!okL P.terms P.nons (x,l))) w):=by
 have b1:=boxed w (.cells #[.int .i64 x,.slice a l.length c] 55);have B1:=zVZ b1;obtain⟨z0,z1,z2,z3,z4,z5,z6⟩:=Z.went b1;clear b1 Z;have OL:=zVZ (show okL P.terms P.nons (x,l)=decide (P.terms<x/\x-P.terms<=P.nons)from rfl);generalize okL P.terms P.nons (x,l)=g at*
 by_cases h1:x<=P.terms
 ·have G2:=zVZ (show(!g)=true by rw[OL.out,decide_eq_false (by omega)];rfl);clear OL;go_enter Tryz.func63,Tryz.ntmps63;go_wp2_with fail;go_ret;exact⟨Gr.zAF G2.out,B1.out⟩
 have hw:IntKind.i64.wrap (x-P.terms)=x-P.terms:=by rw[IntKind.wrap_i64];omega
 have G2:=zVZ (show(!g)=decide (P.nons<x-P.terms)by
  rw[OL.out]
  by_cases h2:x-P.terms<=P.nons
  ·rw[decide_eq_true (by omega),decide_eq_false (by omega)];rfl
  ·rw[decide_eq_false (by omega),decide_eq_true (by omega)];rfl)
 clear OL;go_enter Tryz.func63,Tryz.ntmps63;go_wp2_with fail;go_ret;exact⟨Gr.zAF G2.out,B1.out⟩
theorem zMI(P:Pd)(aR:Option Addr)(cR:Nat)(aW:Option Addr)(cW:Nat)(aX:Option Addr)(cX:Nat)(aG:Option Addr)(cG:Nat)(aH:Option Addr)(cH b:Nat)(w:World)(Z:PBox P aR cR aW cW aX cX aG cG aH cH b w)(hw1:P.row.length<=17592186044416)(hr1:P.rules.length<=4398046511104)(c:Int)(hc:Cd c):
  Calls Tryz.prog 65 #[.int .u16 c,.pointer (some ⟨b,0,none⟩)] w (Gr.Is (.bool (!okC P.row.length P.rules.length c)) w):=by
 have RA:=zVZ (fun w1=>zGk P aR cR aW cW aX cX aG cG aH cH w1 hw1 hr1 c hc);generalize okC P.row.length P.rules.length c=g at*;obtain⟨z0,z1,z2,z3,z4,z5,z6⟩:=Z;unfold pvs at*;go_enter Tryz.func65,Tryz.ntmps65;go_wp2_with fail;refine(RA.out _).mono ?_;rintro e w5 ⟨rfl,hb5⟩;have B5:=zVZ hb5;clear hb5;go_wp2_with fail;go_ret;exact⟨rfl,B5.out⟩
theorem zMe(P:Pd)(aR:Option Addr)(cR:Nat)(aW:Option Addr)(cW:Nat)(aX:Option Addr)(cX:Nat)(aG:Option Addr)(cG:Nat)(aH:Option Addr)(cH b:Nat)(w:World)(Z:PBox P aR cR aW cW aX cX aG cG aH cH b w)(hw1:P.row.length<=17592186044416)(c:Int)(hc:Cd c):
  Calls Tryz.prog 67 #[.int .u16 c,.pointer (some ⟨b,0,none⟩)] w (Gr.Is (.bool (!okG P.row.length c)) w):=by
 have TA:=zVZ (fun w1=>zIb (zDz c hc w1))
 have G2:=zVZ (show(!okG P.row.length c)=decide ((P.row.length:Int)<=toOf c)by
  unfold okG
  by_cases h2:toOf c<(P.row.length:Int)
  ·rw[decide_eq_true h2,decide_eq_false (by omega)];rfl
  ·rw[decide_eq_false h2,decide_eq_true (by omega)];rfl)
 generalize (!okG P.row.length c)=g at*;generalize toOf c=x at*;have mixed:Tryz.prog.follows .mixedOrders=true:=by kernel_rfl
 obtain⟨z0,z1,z2,z3,z4,z5,z6⟩:=Z;have hGw:∀m os,Gw w (Go.Sort.grow (w.drewN m) os):=fun m os=>⟨m,os,rfl⟩
 have k3:∀m os,(Go.Sort.grow (w.drewN m) os).cell? ⟨b,3,none⟩=some (.slice aW P.row.length cW):=fun m os=>cell_later (hGw m os).below z3
 have TAG:=zVZ (fun m os=>TA.out (Go.Sort.grow (w.drewN m) os));go_enter Tryz.func67,Tryz.ntmps67;go_wp2_with fail;refine wp_region_quiet_grown (by assumption) (by kernel_rfl) ?_
 repeat(first|go_big_quiet_skip|(go_big_quiet_want;go_big_quiet_op;first|go_big_quiet_on|go_big_quiet_call (first|(go_at_call 40;refine Calls.grown_of (TAG.out _ _))))|quiet_step (first|(go_at_call 40;refine Calls.grown_of (TAG.out _ _))))
 refine wpQuiet_nil ?_;intro _ hw';obtain⟨⟨nq,osq⟩,hw''⟩:=hw';subst hw'';have BE:=zVZ (hGw nq osq).below;clear hGw k3 TAG;generalize Go.Sort.grow (w.drewN nq) osq=w4 at*;go_wp2_with fail;go_ret;exact⟨Gr.zAF G2.out,BE.out⟩
def IdxR(b:Bool)(w:World)(e:Ending)(w':World):Prop:=∃z:Int,e=.returned (.int .i64 z)/\decide (0<=z)= !b/\Below w.heap.size w w'
theorem zIh(P:Pd)(aR:Option Addr)(cR:Nat)(aW:Option Addr)(cW:Nat)(aX:Option Addr)(cX:Nat)(aG:Option Addr)(cG:Nat)(aH:Option Addr)(cH b:Nat)(w:World)(Z:PBox P aR cR aW cW aX cX aG cG aH cH b w)(ht:0<=P.terms)(L:List (Int×List Int))(a:Option Addr)(c:Nat)(h:RulA a L w)(hl:L.length<=17592186044416)(hp:∀x∈L,Fits x.1):
  Calls Tryz.prog 78 #[.slice a L.length c,.func (.func 63) #[] #[.pointer (some ⟨b,0,none⟩)]] w (IdxR (L.all (okL P.terms P.nons)) w):=by
 have HR:=zVZ (fun w1 (b:Below w.heap.size w w1)=>h.went b);have HZ:=zVZ (fun w1 (b:Below w.heap.size w w1)=>Z.went b);have HP:=zVZ hp;have FT:=zVZ (fun i (hi:i<L.length) (e:okL P.terms P.nons L[i]=false)=>(show L.all (okL P.terms P.nons)=false from zAq hi e));have FE:=zVZ (fun i (h:(L.take i).all (okL P.terms P.nons)=true) (hi:¬i<L.length)=>(show L.all (okL P.terms P.nons)=true from zBC h hi));have ST:=zVZ (fun i (h:(L.take i).all (okL P.terms P.nons)=true) (hi:i<L.length) (e:okL P.terms P.nons L[i]=true)=>(show(L.take (i+1)).all (okL P.terms P.nons)=true from zBV h hi e));have Z0:=zVZ (zBW (okL P.terms P.nons) L);generalize L.all (okL P.terms P.nons)=g at*;clear h Z hp;go_enter Tryz.func78,Tryz.ntmps78;go_wp2_with fail;go_loopw [8] (fun v wr=>∃i:Nat,v=.int .i64 (i:Int)/\i<=L.length/\(L.take i).all (okL P.terms P.nons)=true/\Below w.heap.size w wr) (fun v _=>L.length-(intOf v).toNat)
 case atStart=>exact⟨0,rfl,Nat.zero_le _,Z0.out,.refl _ _⟩
 case round=>
  obtain⟨i,rfl,hi,hA,hB⟩:=hrel;have A:=zVZ hA;have B:=zVZ hB;clear hA hB
  by_cases hlt:i<L.length
  ·obtain⟨rb,ro,ra,rc,rfl,p0,p1,_,_⟩:=HR.out wr B.out i hlt;have FTi:=zVZ (FT.out i hlt);have STi:=zVZ (ST.out i A.out hlt);have hx:=HP.out _ (List.getElem_mem hlt);generalize L[i]=x at*;obtain⟨y,l⟩:=x;dsimp only at p0 p1 hx;unfold Fits at hx;have hil:(i:Int)<(L.length:Int):=by omega
   have CL:=zVZ (fun w1 (bb:Below w.heap.size w w1)=>zN0 P aR cR aW cW aX cX aG cG aH cH b w1 (HZ.out w1 bb) ht y l ra rc hx.2);cases hok:okL P.terms P.nons (y,l)with
   |true=>
    have S2:=zVZ (STi.out hok);rw[hok]at CL;clear hok FTi STi hx;go_wp2_with fail;refine(CL.out _ B.out).mono ?_;rintro e w3 ⟨rfl,hb3⟩;have B3:=zVZ (Gr.step B.out hb3);clear hb3;go_wp2_with fail;go_roundw
    case rel=>exact⟨i+1,by go_num,by omega,S2.out,B3.out⟩
    case measure=>first|(simp[intOf];omega)|omega
   |false=>
    have F2:=zVZ (FTi.out hok);rw[hok]at CL;clear hok FTi STi hx;go_wp2_with fail;refine(CL.out _ B.out).mono ?_;rintro e w3 ⟨rfl,hb3⟩;have B3:=zVZ (Gr.step B.out hb3);clear hb3;go_wp2_with fail;go_ret;exact⟨(i:Int),rfl,by rw[F2.out,decide_eq_true (by omega)];rfl,B3.out⟩
  ·have F2:=zVZ (FE.out i A.out hlt);obtain rfl:i=L.length:=by omega
   go_wp2;go_ret;exact⟨-1,rfl,by rw[F2.out];decide,B.out⟩
theorem zFY(P:Pd)(aR:Option Addr)(cR:Nat)(aW:Option Addr)(cW:Nat)(aX:Option Addr)(cX:Nat)(aG:Option Addr)(cG:Nat)(aH:Option Addr)(cH b:Nat)(w:World)(Z:PBox P aR cR aW cW aX cX aG cG aH cH b w)(ht:0<=P.terms)(L:List (Int×List Int))(a:Option Addr)(c:Nat)(h:RulA a L w)(hl:L.length<=17592186044416)(hp:∀x∈L,Fits x.1):
  Calls Tryz.prog 62 #[.slice a L.length c,.func (.func 63) #[] #[.pointer (some ⟨b,0,none⟩)]] w (Gr.Is (.bool (!L.all (okL P.terms P.nons))) w):=by
 have IX:=zVZ (zIh P aR cR aW cW aX cX aG cG aH cH b w Z ht L a c h hl hp);generalize (L.all (okL P.terms P.nons))=g at*;clear h Z hp;go_enter Tryz.func62,Tryz.ntmps62;go_wp2_with fail;refine IX.out.mono ?_;rintro e w3 ⟨z,rfl,hz,hb3⟩;have B3:=zVZ hb3;have HZ:=zVZ hz;clear hb3 hz;go_wp2_with fail;go_ret;exact⟨Gr.zAF HZ.out.symm,B3.out⟩
theorem zIf(P:Pd)(aR:Option Addr)(cR:Nat)(aW:Option Addr)(cW:Nat)(aX:Option Addr)(cX:Nat)(aG:Option Addr)(cG:Nat)(aH:Option Addr)(cH b:Nat)(w:World)(Z:PBox P aR cR aW cW aX cX aG cG aH cH b w)(hw1:P.row.length<=17592186044416)(hr1:P.rules.length<=4398046511104)(L:List Int)(a:Option Addr)(c:Nat)(h:CodA a L w)(hl:L.length<=17592186044416)(hp:∀x∈L,Cd x):
  Calls Tryz.prog 79 #[.slice a L.length c,.func (.func 65) #[] #[.pointer (some ⟨b,0,none⟩)]] w (IdxR (L.all (okC P.row.length P.rules.length)) w):=by
 have HR:=zVZ (fun w1 (b:Below w.heap.size w w1)=>h.went b);have HZ:=zVZ (fun w1 (b:Below w.heap.size w w1)=>Z.went b);have HP:=zVZ hp;have FT:=zVZ (fun i (hi:i<L.length) (e:okC P.row.length P.rules.length L[i]=false)=>(show L.all (okC P.row.length P.rules.length)=false from zAq hi e));have FE:=zVZ (fun i (h:(L.take i).all (okC P.row.length P.rules.length)=true) (hi:¬i<L.length)=>(show L.all (okC P.row.length P.rules.length)=true from zBC h hi));have ST:=zVZ (fun i (h:(L.take i).all (okC P.row.length P.rules.length)=true) (hi:i<L.length) (e:okC P.row.length P.rules.length L[i]=true)=>(show(L.take (i+1)).all (okC P.row.length P.rules.length)=true from zBV h hi e));have Z0:=zVZ (zBW (okC P.row.length P.rules.length) L);generalize L.all (okC P.row.length P.rules.length)=g at*;clear h Z hp;go_enter Tryz.func79,Tryz.ntmps79;go_wp2_with fail;go_loopw [8] (fun v wr=>∃i:Nat,v=.int .i64 (i:Int)/\i<=L.length/\(L.take i).all (okC P.row.length P.rules.length)=true/\Below w.heap.size w wr) (fun v _=>L.length-(intOf v).toNat)
 case atStart=>exact⟨0,rfl,Nat.zero_le _,Z0.out,.refl _ _⟩
 case round=>
  obtain⟨i,rfl,hi,hA,hB⟩:=hrel;have A:=zVZ hA;have B:=zVZ hB;clear hA hB
  by_cases hlt:i<L.length
  ·obtain⟨rb,ro,rfl,p0⟩:=(HR.out wr B.out).at hlt;have FTi:=zVZ (FT.out i hlt);have STi:=zVZ (ST.out i A.out hlt);have hx:=HP.out _ (List.getElem_mem hlt);generalize L[i]=x at*
   skip
   have hil:(i:Int)<(L.length:Int):=by omega
   have CL:=zVZ (fun w1 (bb:Below w.heap.size w w1)=>zMI P aR cR aW cW aX cX aG cG aH cH b w1 (HZ.out w1 bb) hw1 hr1 x hx);cases hok:okC P.row.length P.rules.length x with
   |true=>
    have S2:=zVZ (STi.out hok);rw[hok]at CL;clear hok FTi STi hx;go_wp2_with fail;refine(CL.out _ B.out).mono ?_;rintro e w3 ⟨rfl,hb3⟩;have B3:=zVZ (Gr.step B.out hb3);clear hb3;go_wp2_with fail;go_roundw
    case rel=>exact⟨i+1,by go_num,by omega,S2.out,B3.out⟩
    case measure=>first|(simp[intOf];omega)|omega
   |false=>
    have F2:=zVZ (FTi.out hok);rw[hok]at CL;clear hok FTi STi hx;go_wp2_with fail;refine(CL.out _ B.out).mono ?_;rintro e w3 ⟨rfl,hb3⟩;have B3:=zVZ (Gr.step B.out hb3);clear hb3;go_wp2_with fail;go_ret;exact⟨(i:Int),rfl,by rw[F2.out,decide_eq_true (by omega)];rfl,B3.out⟩
  ·have F2:=zVZ (FE.out i A.out hlt);obtain rfl:i=L.length:=by omega
   go_wp2;go_ret;exact⟨-1,rfl,by rw[F2.out];decide,B.out⟩
theorem zFW(P:Pd)(aR:Option Addr)(cR:Nat)(aW:Option Addr)(cW:Nat)(aX:Option Addr)(cX:Nat)(aG:Option Addr)(cG:Nat)(aH:Option Addr)(cH b:Nat)(w:World)(Z:PBox P aR cR aW cW aX cX aG cG aH cH b w)(hw1:P.row.length<=17592186044416)(hr1:P.rules.length<=4398046511104)(L:List Int)(a:Option Addr)(c:Nat)(h:CodA a L w)(hl:L.length<=17592186044416)(hp:∀x∈L,Cd x):
  Calls Tryz.prog 64 #[.slice a L.length c,.func (.func 65) #[] #[.pointer (some ⟨b,0,none⟩)]] w (Gr.Is (.bool (!L.all (okC P.row.length P.rules.length))) w):=by
 have IX:=zVZ (zIf P aR cR aW cW aX cX aG cG aH cH b w Z hw1 hr1 L a c h hl hp);generalize (L.all (okC P.row.length P.rules.length))=g at*;clear h Z hp;go_enter Tryz.func64,Tryz.ntmps64;go_wp2_with fail;refine IX.out.mono ?_;rintro e w3 ⟨z,rfl,hz,hb3⟩;have B3:=zVZ hb3;have HZ:=zVZ hz;clear hb3 hz;go_wp2_with fail;go_ret;exact⟨Gr.zAF HZ.out.symm,B3.out⟩
theorem zIg(P:Pd)(aR:Option Addr)(cR:Nat)(aW:Option Addr)(cW:Nat)(aX:Option Addr)(cX:Nat)(aG:Option Addr)(cG:Nat)(aH:Option Addr)(cH b:Nat)(w:World)(Z:PBox P aR cR aW cW aX cX aG cG aH cH b w)(hw1:P.row.length<=17592186044416)(L:List Int)(a:Option Addr)(c:Nat)(h:CodA a L w)(hl:L.length<=17592186044416)(hp:∀x∈L,Cd x):
  Calls Tryz.prog 79 #[.slice a L.length c,.func (.func 67) #[] #[.pointer (some ⟨b,0,none⟩)]] w (IdxR (L.all (okG P.row.length)) w):=by
 have HR:=zVZ (fun w1 (b:Below w.heap.size w w1)=>h.went b);have HZ:=zVZ (fun w1 (b:Below w.heap.size w w1)=>Z.went b);have HP:=zVZ hp;have FT:=zVZ (fun i (hi:i<L.length) (e:okG P.row.length L[i]=false)=>(show L.all (okG P.row.length)=false from zAq hi e));have FE:=zVZ (fun i (h:(L.take i).all (okG P.row.length)=true) (hi:¬i<L.length)=>(show L.all (okG P.row.length)=true from zBC h hi));have ST:=zVZ (fun i (h:(L.take i).all (okG P.row.length)=true) (hi:i<L.length) (e:okG P.row.length L[i]=true)=>(show(L.take (i+1)).all (okG P.row.length)=true from zBV h hi e));have Z0:=zVZ (zBW (okG P.row.length) L);generalize L.all (okG P.row.length)=g at*;clear h Z hp;go_enter Tryz.func79,Tryz.ntmps79;go_wp2_with fail;go_loopw [8] (fun v wr=>∃i:Nat,v=.int .i64 (i:Int)/\i<=L.length/\(L.take i).all (okG P.row.length)=true/\Below w.heap.size w wr) (fun v _=>L.length-(intOf v).toNat)
 case atStart=>exact⟨0,rfl,Nat.zero_le _,Z0.out,.refl _ _⟩
 case round=>
  obtain⟨i,rfl,hi,hA,hB⟩:=hrel;have A:=zVZ hA;have B:=zVZ hB;clear hA hB
  by_cases hlt:i<L.length
  ·obtain⟨rb,ro,rfl,p0⟩:=(HR.out wr B.out).at hlt;have FTi:=zVZ (FT.out i hlt);have STi:=zVZ (ST.out i A.out hlt);have hx:=HP.out _ (List.getElem_mem hlt);generalize L[i]=x at*
   skip
   have hil:(i:Int)<(L.length:Int):=by omega
   have CL:=zVZ (fun w1 (bb:Below w.heap.size w w1)=>zMe P aR cR aW cW aX cX aG cG aH cH b w1 (HZ.out w1 bb) hw1 x hx);cases hok:okG P.row.length x with
   |true=>
    have S2:=zVZ (STi.out hok);rw[hok]at CL;clear hok FTi STi hx;go_wp2_with fail;refine(CL.out _ B.out).mono ?_;rintro e w3 ⟨rfl,hb3⟩;have B3:=zVZ (Gr.step B.out hb3);clear hb3;go_wp2_with fail;go_roundw
    case rel=>exact⟨i+1,by go_num,by omega,S2.out,B3.out⟩
    case measure=>first|(simp[intOf];omega)|omega
   |false=>
    have F2:=zVZ (FTi.out hok);rw[hok]at CL;clear hok FTi STi hx;go_wp2_with fail;refine(CL.out _ B.out).mono ?_;rintro e w3 ⟨rfl,hb3⟩;have B3:=zVZ (Gr.step B.out hb3);clear hb3;go_wp2_with fail;go_ret;exact⟨(i:Int),rfl,by rw[F2.out,decide_eq_true (by omega)];rfl,B3.out⟩
  ·have F2:=zVZ (FE.out i A.out hlt);obtain rfl:i=L.length:=by omega
   go_wp2;go_ret;exact⟨-1,rfl,by rw[F2.out];decide,B.out⟩
theorem zFX(P:Pd)(aR:Option Addr)(cR:Nat)(aW:Option Addr)(cW:Nat)(aX:Option Addr)(cX:Nat)(aG:Option Addr)(cG:Nat)(aH:Option Addr)(cH b:Nat)(w:World)(Z:PBox P aR cR aW cW aX cX aG cG aH cH b w)(hw1:P.row.length<=17592186044416)(L:List Int)(a:Option Addr)(c:Nat)(h:CodA a L w)(hl:L.length<=17592186044416)(hp:∀x∈L,Cd x):
  Calls Tryz.prog 64 #[.slice a L.length c,.func (.func 67) #[] #[.pointer (some ⟨b,0,none⟩)]] w (Gr.Is (.bool (!L.all (okG P.row.length))) w):=by
 have IX:=zVZ (zIg P aR cR aW cW aX cX aG cG aH cH b w Z hw1 L a c h hl hp);generalize (L.all (okG P.row.length))=g at*;clear h Z hp;go_enter Tryz.func64,Tryz.ntmps64;go_wp2_with fail;refine IX.out.mono ?_;rintro e w3 ⟨z,rfl,hz,hb3⟩;have B3:=zVZ hb3;have HZ:=zVZ hz;clear hb3 hz;go_wp2_with fail;go_ret;exact⟨Gr.zAF HZ.out.symm,B3.out⟩
