/- A part of the proof. -/
import Derived.Test.YtegeamggbglneaaGreatDoorPk13
set_option maxHeartbeats 4000000
set_option maxRecDepth 100000
set_option linter.unusedVariables false
namespace Go.Proofs.YtegeamggbglneaaGreatDoor
open Go.RowKit Go.Maps
namespace Pk
open Gr (cell_later boxed)
theorem zDu(P)(aR)(cR)(aW)(cW)(aX)(cX)(aG)(cG)(aH)(cH)(w):
  Calls Tryz.prog 66 #[.agg (pvs P aR cR aW cW aX cX aG cG aH cH)] w (fun e w'=>e=.returned (.int .i64 (tm P.terms))/\Gw w w'):=by
 have B:=zV7 ((Gw.refl w).alloc (.cells (pvs P aR cR aW cW aX cX aG cG aH cH) 32));obtain⟨z0,z1,z2,z3,z4,z5,z6⟩:=zAr (P:=P) (aR:=aR) (cR:=cR) (aW:=aW) (cW:=cW) (aX:=aX) (cX:=cX) (aG:=aG) (cG:=cG) (aH:=aH) (cH:=cH) w 32;unfold pvs at*;generalize P.terms=n at*;go_enter Tryz.func66,Tryz.ntmps66;go_wp2
 all_goals
  go_ret;refine⟨Gr.zAx ?_,B.out⟩;unfold tm;omega
theorem zIM(L:List Int)(a:Option Addr)(c:Nat)(w:World)(h:IntA a L w)(hl:L.length<=17592186044416)(i z:Int):
  Calls Tryz.prog 68 #[.slice a L.length c,.int .i64 i,.int .i64 z] w (fun e w'=>e=.returned (.int .i64 (pick L z i))/\w'=w):=by
 by_cases hi:0<=i/\i<(L.length:Int)
 ·obtain⟨n,rfl⟩:∃n:Nat,i=(n:Int):=⟨i.toNat,by omega⟩;have hn:n<L.length:=by omega
  obtain⟨b,o,rfl,p0⟩:=h.at hn;rw[zDY L z hn];generalize L[n]=x at*;clear h;have h0:¬((n:Int)<0):=by omega
  have h1:¬((L.length:Int)<=(n:Int)):=by omega
  have h2:(n:Int)<(L.length:Int):=by omega
  go_enter Tryz.func68,Tryz.ntmps68;go_wp2;go_ret;exact⟨rfl,rfl⟩
 ·rw[zBn L z hi];clear h
  by_cases h0:i<0
  ·go_enter Tryz.func68,Tryz.ntmps68;go_wp2;go_ret;exact⟨rfl,rfl⟩
  ·have h1:(L.length:Int)<=i:=by omega
   go_enter Tryz.func68,Tryz.ntmps68;go_wp2;go_ret;exact⟨rfl,rfl⟩
theorem zIO(L:List Int)(a:Option Addr)(c:Nat)(w:World)(h:CodA a L w)(hl:L.length<=35184372088832)(i z:Int):
  Calls Tryz.prog 69 #[.slice a L.length c,.int .i64 i,.int .u16 z] w (fun e w'=>e=.returned (.int .u16 (pick L z i))/\w'=w):=by
 by_cases hi:0<=i/\i<(L.length:Int)
 ·obtain⟨n,rfl⟩:∃n:Nat,i=(n:Int):=⟨i.toNat,by omega⟩;have hn:n<L.length:=by omega
  obtain⟨b,o,rfl,p0⟩:=h.at hn;rw[zDY L z hn];generalize L[n]=x at*;clear h;have h0:¬((n:Int)<0):=by omega
  have h1:¬((L.length:Int)<=(n:Int)):=by omega
  have h2:(n:Int)<(L.length:Int):=by omega
  go_enter Tryz.func69,Tryz.ntmps69;go_wp2;go_ret;exact⟨rfl,rfl⟩
 ·rw[zBn L z hi];clear h
  by_cases h0:i<0
  ·go_enter Tryz.func69,Tryz.ntmps69;go_wp2;go_ret;exact⟨rfl,rfl⟩
  ·have h1:(L.length:Int)<=i:=by omega
   go_enter Tryz.func69,Tryz.ntmps69;go_wp2;go_ret;exact⟨rfl,rfl⟩
theorem zIN(X:List (List Int))(a:Option Addr)(c:Nat)(w:World)(h:zGi a X w)(hl:X.length<=8796093022208)(i:Int):
  ∃ra rc,CodA ra (pick X [] i) w/\(pick X [] i).length<=35184372088832/\∀w1,Below w.heap.size w w1->Calls Tryz.prog 67 #[.slice a X.length c,.int .i64 i,.slice none 0 0] w1 (fun e w'=>e=.returned (.slice ra (pick X [] i).length rc)/\w'=w1):=by
 by_cases hi:0<=i/\i<(X.length:Int)
 ·obtain⟨n,rfl⟩:∃n:Nat,i=(n:Int):=⟨i.toNat,by omega⟩;have hn:n<X.length:=by omega
  rw[zDY X [] hn];obtain⟨b,o,ra,rc,rfl,p0,hr,_,hl2⟩:=h n hn;refine⟨ra,rc,hr,hl2,fun w1 hb=>?_⟩;replace p0:=cell_later hb p0;generalize X[n].length=l at*;clear h hr;have h0:¬((n:Int)<0):=by omega
  have h1:¬((X.length:Int)<=(n:Int)):=by omega
  have h2:(n:Int)<(X.length:Int):=by omega
  go_enter Tryz.func67,Tryz.ntmps67;go_wp2;go_ret;exact⟨rfl,rfl⟩
 ·rw[zBn X [] hi];refine⟨none,0,.nil _ _,by simp,fun w1 hb=>?_⟩;clear h
  by_cases h0:i<0
  ·go_enter Tryz.func67,Tryz.ntmps67;go_wp2;go_ret;exact⟨rfl,rfl⟩
  ·have h1:(X.length:Int)<=i:=by omega
   go_enter Tryz.func67,Tryz.ntmps67;go_wp2;go_ret;exact⟨rfl,rfl⟩
theorem zI5{P}{f}{args}{w}{v}(h:Calls P f args w (fun e w'=>e=.returned v/\w'=w)):Calls P f args w (fun e w'=>e=.returned v/\Gw w w'):=h.mono fun e w' h=>⟨h.1,0,#[],by rw[Go.Sort.grow_empty];exact h.2⟩
theorem zOD{L}(h:∀c∈L,Cd c)(i):Cd (pick L 0 i):=by
 unfold pick;split
 ·rename_i hi;have:i.toNat<L.length:=by omega
  rw[List.getD_eq_getElem?_getD,List.getElem?_eq_getElem this];exact h _ (List.getElem_mem _)
 ·unfold Cd;omega
theorem zKV{X}(h:∀r∈X,∀c∈r,Cd c)(i):∀c∈pick X [] i,Cd c:=by
 unfold pick;split
 ·rename_i hi;have:i.toNat<X.length:=by omega
  rw[List.getD_eq_getElem?_getD,List.getElem?_eq_getElem this];exact h _ (List.getElem_mem _)
 ·intro c hc;cases hc
theorem zQp(P:Pd)(aR:Option Addr)(cR:Nat)(aW:Option Addr)(cW:Nat)(aX:Option Addr)(cX:Nat)(aG:Option Addr)(cG:Nat)(aH:Option Addr)(cH:Nat)(w:World)(D:PAt P aR cR aW cW aX cX aG cG aH cH w)(i t:Int):
  Calls Tryz.prog 24 #[.agg (pvs P aR cR aW cW aX cX aG cG aH cH),.int .i64 i,.int .i64 t] w (Gr.Is (av (zLh P i t)) w):=by
 have TE:=zV7 (fun w1=>zDu P aR cR aW cW aX cX aG cG aH cH w1);have PI:=zV7 (fun w1 (b:Below w.heap.size w w1)=>zI5 (zIM P.row aW cW w1 (D.went b).row D.wl i (-1)));obtain⟨ra,rc,hra,hrl,hpk⟩:=zIN P.rows aX cX w D.rows D.xl (pick P.row (-1) i);have PR:=zV7 (fun w1 (b:Below w.heap.size w w1)=>zI5 (hpk w1 b));have PU:=zV7 (fun w1 (b:Below w.heap.size w w1)=>zIO (pick P.rows [] (pick P.row (-1) i)) ra rc w1 (hra.went b) hrl t 0);have hcd:=zOD (zKV D.fit.rows (pick P.row (-1) i)) t;have AC:=zV7 (fun w1=>zD7 (pick (pick P.rows [] (pick P.row (-1) i)) 0 t) hcd w1);have b1:=boxed w (.cells (pvs P aR cR aW cW aX cX aG cG aH cH) 32);have b2:=boxed (w.alloc (.cells (pvs P aR cR aW cW aX cX aG cG aH cH) 32)) (.cells #[.int .i64 0,.int .i64 0] 57);have B2:=zV7 (Gr.step b1 b2);have Z:=zV7 ((zAr (P:=P) (aR:=aR) (cR:=cR) (aW:=aW) (cW:=cW) (aX:=aX) (cX:=cX) (aG:=aG) (cG:=cG) (aH:=aH) (cH:=cH) w 32).went b2);have Y:=zV7 (zAd (w.alloc (.cells (pvs P aR cR aW cW aX cX aG cG aH cH) 32)) (.cells #[.int .i64 0,.int .i64 0] 57));rw[World.size_alloc]at Y;have AP:=zV7 (show zLh P i t=if tm P.terms<t then(0,0)else zAb (pick (pick P.rows [] (pick P.row (-1) i)) 0 t)from rfl);have mixed:Tryz.prog.follows .mixedOrders=true:=by kernel_rfl
 generalize zLh P i t=x at*;clear D b1 b2 hra hpk hcd hrl;generalize pick P.rows [] (pick P.row (-1) i)=row at*;generalize pick P.row (-1) i=ri at*;generalize pick row 0 t=cc at*;generalize tm P.terms=tn at*;obtain⟨z0,z1,z2,z3,z4,z5,z6⟩:=Z.out;unfold pvs at*;go_enter Tryz.func24,Tryz.ntmps24;go_wp2_with fail;generalize (w.alloc (.cells #[.slice aR P.rules.length cR,.int .i64 P.terms,.int .i64 P.nons,.slice aW P.row.length cW,.slice aX P.rows.length cX,.slice aG P.gow.length cG,.slice aH P.gows.length cH] 32)).alloc (.cells #[.int .i64 0,.int .i64 0] 57)=w2 at*;refine(TE.out _).mono ?_;rintro e w3 ⟨rfl,hg3⟩;have hb3:=hg3.below;have B3:=zV7 (Gr.step B2.out hb3);have Z3:=zV7 (Z.out.went hb3);have Y3:=zV7 ((hb3.block _ (Array.getElem?_eq_some_iff.1 Y.out).1).trans Y.out);clear z0 z1 z2 z3 z4 z5 z6 hb3 hg3 Y Z B2;obtain⟨z0,z1,z2,z3,z4,z5,z6⟩:=Z3.out
 by_cases ht:tn<t
 ·have e:=AP.out;rw[if_pos ht]at e;subst e;have y0:=zAA Y3.out (k:=0) (by simp);have y1:=zAA Y3.out (k:=1) (by simp);have f0:=zAM (k:=0) Y3.out;have f1:=zAM (k:=1) Y3.out;have hlt:w.heap.size+1<w3.heap.size:=(Array.getElem?_eq_some_iff.1 Y3.out).1;have BE:=zV7 ((B3.out.setCell (p:=⟨w.heap.size+1,0,none⟩) (Nat.le_succ _) (.int .i64 0)).setCell (p:=⟨w.heap.size+1,1,none⟩) (Nat.le_succ _) (.int .i64 0));have Y4:=zAU (k:=1) (zAU (k:=0) Y3.out (.int .i64 0)) (.int .i64 0);have r0:=zAA Y4 (k:=0) (by simp);have r1:=zAA Y4 (k:=1) (by simp);simp only[Array.setIfInBounds,List.set_toArray]at r0 r1;clear Y3 Y4 Z3;go_wp2;exact bodyPost_ret (v:=.agg #[.int .i64 0,.int .i64 0]) (by simp[results,Tryz.results24,go_sem,r0,r1]) rfl ⟨rfl,BE.out⟩
 ·have e:=AP.out;rw[if_neg ht]at e;subst e;generalize zAb cc=x at*;obtain⟨x1,x2⟩:=x;go_wp2_with fail;have hGw:∀m os,Gw w3 (Go.Sort.grow (w3.drewN m) os):=fun m os=>⟨m,os,rfl⟩
  have k3:∀m os,(Go.Sort.grow (w3.drewN m) os).cell? ⟨w.heap.size,3,none⟩=some (.slice aW P.row.length cW):=fun m os=>cell_later (hGw m os).below z3
  have k4:∀m os,(Go.Sort.grow (w3.drewN m) os).cell? ⟨w.heap.size,4,none⟩=some (.slice aX P.rows.length cX):=fun m os=>cell_later (hGw m os).below z4
  have PIG:=zV7 (fun m os=>PI.out (Go.Sort.grow (w3.drewN m) os) (Gr.step B3.out (hGw m os).below));have PRG:=zV7 (fun m os=>PR.out (Go.Sort.grow (w3.drewN m) os) (Gr.step B3.out (hGw m os).below));refine wp_region_quiet_grown (by assumption) (by kernel_rfl) ?_
  repeat(first|go_big_quiet_skip|(go_big_quiet_want;go_big_quiet_op;first|go_big_quiet_on|go_big_quiet_call (first|(go_at_call 68;refine Calls.grown_of (PIG.out _ _))|(go_at_call 67;refine Calls.grown_of (PRG.out _ _))))|quiet_step (first|(go_at_call 68;refine Calls.grown_of (PIG.out _ _))|(go_at_call 67;refine Calls.grown_of (PRG.out _ _))))
  refine wpQuiet_nil ?_;intro _ hw';obtain⟨⟨nq,osq⟩,hw''⟩:=hw';subst hw'';have B4:=zV7 (Gr.step B3.out (hGw nq osq).below);have Y4:=zV7 (((hGw nq osq).below.block _ (Array.getElem?_eq_some_iff.1 Y3.out).1).trans Y3.out);clear hGw k3 k4 PIG PRG z0 z1 z2 z3 z4 z5 z6 Y3 Z3;generalize Go.Sort.grow (w3.drewN nq) osq=w4 at*;go_wp2_with fail;refine(PU.out _ B4.out).mono ?_;rintro e w5 ⟨rfl,hw5⟩;obtain rfl:=hw5;go_wp2_with fail;refine(AC.out _).mono ?_;rintro e w6 ⟨rfl,hb6⟩;have B6:=zV7 (Gr.step B4.out hb6);have Y6:=(hb6.block _ (Array.getElem?_eq_some_iff.1 Y4.out).1).trans Y4.out;have y0:=zAA Y6 (k:=0) (by simp);have y1:=zAA Y6 (k:=1) (by simp);have f0:=zAM (k:=0) Y6;have f1:=zAM (k:=1) Y6;have hlt:w.heap.size+1<w6.heap.size:=(Array.getElem?_eq_some_iff.1 Y6).1;have BE:=zV7 ((B6.out.setCell (p:=⟨w.heap.size+1,0,none⟩) (Nat.le_succ _) (.int .i64 x1)).setCell (p:=⟨w.heap.size+1,1,none⟩) (Nat.le_succ _) (.int .i64 x2));have Y7:=zAU (k:=1) (zAU (k:=0) Y6 (.int .i64 x1)) (.int .i64 x2);have r0:=zAA Y7 (k:=0) (by simp);have r1:=zAA Y7 (k:=1) (by simp);simp only[Array.setIfInBounds,List.set_toArray]at r0 r1;clear Y4 Y6 Y7 hb6;dsimp only at*;go_wp2;exact bodyPost_ret (v:=.agg #[.int .i64 x1,.int .i64 x2]) (by simp[results,Tryz.results24,go_sem,r0,r1]) rfl ⟨rfl,BE.out⟩
end Pk
namespace Pk
open Gr (cell_later boxed)
theorem zOC(P:Pd)(aR:Option Addr)(cR:Nat)(aW:Option Addr)(cW:Nat)(aX:Option Addr)(cX:Nat)(aG:Option Addr)(cG:Nat)(aH:Option Addr)(cH:Nat)(w:World)(D:PAt P aR cR aW cW aX cX aG cG aH cH w)(i s:Int)(hs9:s<=9223372036854775807):
  Calls Tryz.prog 25 #[.agg (pvs P aR cR aW cW aX cX aG cG aH cH),.int .i64 i,.int .i64 s] w (Gr.Is (.int .i64 (zGZ P i s)) w):=by
 have TE:=zV7 (fun w1=>zDu P aR cR aW cW aX cX aG cG aH cH w1);have PI:=zV7 (fun w1 (b:Below w.heap.size w w1)=>zI5 (zIM P.gow aG cG w1 (D.went b).gow D.gl i (-1)));obtain⟨ra,rc,hra,hrl,hpk⟩:=zIN P.gows aH cH w D.gows D.hl (pick P.gow (-1) i);have PR:=zV7 (fun w1 (b:Below w.heap.size w w1)=>zI5 (hpk w1 b));have PU:=zV7 (fun w1 (b:Below w.heap.size w w1)=>zI5 (zIO (pick P.gows [] (pick P.gow (-1) i)) ra rc w1 (hra.went b) hrl (s-tm P.terms-1) 0));have hcd:=zOD (zKV D.fit.gows (pick P.gow (-1) i)) (s-tm P.terms-1);have TA:=zV7 (fun w1=>zI5 (zEO (pick (pick P.gows [] (pick P.gow (-1) i)) 0 (s-tm P.terms-1)) hcd w1));have B1:=zV7 (boxed w (.cells (pvs P aR cR aW cW aX cX aG cG aH cH) 32));have Z1:=zV7 (zAr (P:=P) (aR:=aR) (cR:=cR) (aW:=aW) (cW:=cW) (aX:=aX) (cX:=cX) (aG:=aG) (cG:=cG) (aH:=aH) (cH:=cH) w 32);have hwl:=D.wl;have hgl:=D.gl;have hnf:=D.fit.n;have mixed:Tryz.prog.follows .mixedOrders=true:=by kernel_rfl
 have GT:=zV7 (show zGZ P i s=if s<=tm P.terms\/P.nons<s-tm P.terms then-1 else if((max P.row.length P.gow.length:Nat):Int)<=toOf (pick (pick P.gows [] (pick P.gow (-1) i)) 0 (s-tm P.terms-1))then-1 else toOf (pick (pick P.gows [] (pick P.gow (-1) i)) 0 (s-tm P.terms-1))from rfl);have ht0:0<=tm P.terms:=by unfold tm;omega
 generalize zGZ P i s=g at*;clear D hra hpk hcd hrl;generalize tm P.terms=tn at*;generalize pick P.gows [] (pick P.gow (-1) i)=row at*;generalize pick P.gow (-1) i=ri at*;obtain⟨z0,z1,z2,z3,z4,z5,z6⟩:=Z1.out;unfold pvs at*;go_enter Tryz.func25,Tryz.ntmps25;go_wp2_with fail;generalize w.alloc (.cells #[.slice aR P.rules.length cR,.int .i64 P.terms,.int .i64 P.nons,.slice aW P.row.length cW,.slice aX P.rows.length cX,.slice aG P.gow.length cG,.slice aH P.gows.length cH] 32)=w2 at*;have hGw:∀m os,Gw w2 (Go.Sort.grow (w2.drewN m) os):=fun m os=>⟨m,os,rfl⟩
 have k0:∀m os,(Go.Sort.grow (w2.drewN m) os).cell? ⟨w.heap.size,0,none⟩=some (.slice aR P.rules.length cR):=fun m os=>cell_later (hGw m os).below z0
 have k1:∀m os,(Go.Sort.grow (w2.drewN m) os).cell? ⟨w.heap.size,1,none⟩=some (.int .i64 P.terms):=fun m os=>cell_later (hGw m os).below z1
 have k2:∀m os,(Go.Sort.grow (w2.drewN m) os).cell? ⟨w.heap.size,2,none⟩=some (.int .i64 P.nons):=fun m os=>cell_later (hGw m os).below z2
 have k3:∀m os,(Go.Sort.grow (w2.drewN m) os).cell? ⟨w.heap.size,3,none⟩=some (.slice aW P.row.length cW):=fun m os=>cell_later (hGw m os).below z3
 have k4:∀m os,(Go.Sort.grow (w2.drewN m) os).cell? ⟨w.heap.size,4,none⟩=some (.slice aX P.rows.length cX):=fun m os=>cell_later (hGw m os).below z4
 have k5:∀m os,(Go.Sort.grow (w2.drewN m) os).cell? ⟨w.heap.size,5,none⟩=some (.slice aG P.gow.length cG):=fun m os=>cell_later (hGw m os).below z5
 have k6:∀m os,(Go.Sort.grow (w2.drewN m) os).cell? ⟨w.heap.size,6,none⟩=some (.slice aH P.gows.length cH):=fun m os=>cell_later (hGw m os).below z6
 have TG:=zV7 (fun m os=>TE.out (Go.Sort.grow (w2.drewN m) os))
 by_cases h1:s<=tn
 ·have hd:decide (s<=tn)=true:=decide_eq_true h1;have G2:=zV7 (show g= -1 by rw[GT.out,if_pos (.inl h1)]);clear GT;refine wp_region_quiet_grown (by assumption) (by kernel_rfl) ?_
  repeat(first|go_big_quiet_skip|(go_big_quiet_want;go_big_quiet_op;first|go_big_quiet_on|go_big_quiet_call (first|(go_at_call 66;refine Calls.grown_of (TG.out _ _))))|quiet_step (first|(go_at_call 66;refine Calls.grown_of (TG.out _ _))))
  refine wpQuiet_nil ?_;intro _ hw';obtain⟨⟨nq,osq⟩,hw''⟩:=hw';subst hw'';have BE:=zV7 (Gr.step B1.out (hGw nq osq).below);clear hGw k0 k1 k2 k3 k4 k5 k6 TG;generalize Go.Sort.grow (w2.drewN nq) osq=w3 at BE⊢;go_wp2;go_ret;exact⟨Gr.zAx G2.out,BE.out⟩
 ·have hd:decide (s<=tn)=false:=decide_eq_false h1;have e2:IntKind.i64.wrap (s-tn)=s-tn:=by rw[IntKind.wrap_i64];omega
  have e4:IntKind.i64.wrap (s-tn-1)=s-tn-1:=by rw[IntKind.wrap_i64];omega
  by_cases h3:P.nons<s-tn
  ·have G2:=zV7 (show g= -1 by rw[GT.out,if_pos (.inr h3)]);clear GT;refine wp_region_quiet_grown (by assumption) (by kernel_rfl) ?_
   repeat(first|go_big_quiet_skip|(go_big_quiet_want;go_big_quiet_op;first|go_big_quiet_on|go_big_quiet_call (first|(go_at_call 66;refine Calls.grown_of (TG.out _ _))))|quiet_step (first|(go_at_call 66;refine Calls.grown_of (TG.out _ _))))
   refine wpQuiet_nil ?_;intro _ hw';obtain⟨⟨nq,osq⟩,hw''⟩:=hw';subst hw'';have BE:=zV7 (Gr.step B1.out (hGw nq osq).below);clear hGw k0 k1 k2 k3 k4 k5 k6 TG;generalize Go.Sort.grow (w2.drewN nq) osq=w3 at BE⊢;go_wp2;go_ret;exact⟨Gr.zAx G2.out,BE.out⟩
  ·have GT:=zV7 (show g= _ by rw[GT.out,if_neg (by omega)]);generalize hk:s-tn-1=k at*;refine wp_region_quiet_grown (by assumption) (by kernel_rfl) ?_
   repeat(first|go_big_quiet_skip|(go_big_quiet_want;go_big_quiet_op;first|go_big_quiet_on|go_big_quiet_call (first|(go_at_call 66;refine Calls.grown_of (TG.out _ _))))|quiet_step (first|(go_at_call 66;refine Calls.grown_of (TG.out _ _))))
   refine wpQuiet_nil ?_;intro _ hw';obtain⟨⟨nq,osq⟩,hw''⟩:=hw';subst hw'';have B3:=zV7 (Gr.step B1.out (hGw nq osq).below);have Z3:=zV7 (Z1.out.went (hGw nq osq).below);clear hGw k0 k1 k2 k3 k4 k5 k6 TG z0 z1 z2 z3 z4 z5 z6;generalize Go.Sort.grow (w2.drewN nq) osq=w3 at*;obtain⟨z0,z1,z2,z3,z4,z5,z6⟩:=Z3.out;go_wp2_with fail;have hGw:∀m os,Gw w3 (Go.Sort.grow (w3.drewN m) os):=fun m os=>⟨m,os,rfl⟩
   have k5:∀m os,(Go.Sort.grow (w3.drewN m) os).cell? ⟨w.heap.size,5,none⟩=some (.slice aG P.gow.length cG):=fun m os=>cell_later (hGw m os).below z5
   have k6:∀m os,(Go.Sort.grow (w3.drewN m) os).cell? ⟨w.heap.size,6,none⟩=some (.slice aH P.gows.length cH):=fun m os=>cell_later (hGw m os).below z6
   have PIG:=zV7 (fun m os=>PI.out (Go.Sort.grow (w3.drewN m) os) (Gr.step B3.out (hGw m os).below));have PRG:=zV7 (fun m os=>PR.out (Go.Sort.grow (w3.drewN m) os) (Gr.step B3.out (hGw m os).below));refine wp_region_quiet_grown (by assumption) (by kernel_rfl) ?_
   repeat(first|go_big_quiet_skip|(go_big_quiet_want;go_big_quiet_op;first|go_big_quiet_on|go_big_quiet_call (first|(go_at_call 68;refine Calls.grown_of (PIG.out _ _))|(go_at_call 67;refine Calls.grown_of (PRG.out _ _))))|quiet_step (first|(go_at_call 68;refine Calls.grown_of (PIG.out _ _))|(go_at_call 67;refine Calls.grown_of (PRG.out _ _))))
   refine wpQuiet_nil ?_;intro _ hw';obtain⟨⟨nq,osq⟩,hw''⟩:=hw';subst hw'';have B4:=zV7 (Gr.step B3.out (hGw nq osq).below);have Z4:=zV7 (Z3.out.went (hGw nq osq).below);clear hGw k5 k6 PIG PRG z0 z1 z2 z3 z4 z5 z6;generalize Go.Sort.grow (w3.drewN nq) osq=w4 at*;obtain⟨z0,z1,z2,z3,z4,z5,z6⟩:=Z4.out;go_wp2_with fail;refine(TE.out _).mono ?_;rintro e w5 ⟨rfl,hg5⟩;have B5:=zV7 (Gr.step B4.out hg5.below);have Z5:=zV7 (Z4.out.went hg5.below);clear z0 z1 z2 z3 z4 z5 z6 hg5;obtain⟨z0,z1,z2,z3,z4,z5,z6⟩:=Z5.out;go_wp2_with fail;refine(PU.out _ B5.out).mono ?_;rintro e w6 ⟨rfl,hg6⟩;have B6:=zV7 (Gr.step B5.out hg6.below);have Z6:=zV7 (Z5.out.went hg6.below);clear z0 z1 z2 z3 z4 z5 z6 hg6;obtain⟨z0,z1,z2,z3,z4,z5,z6⟩:=Z6.out;go_wp2_with fail;refine(TA.out _).mono ?_;rintro e w7 ⟨rfl,hg7⟩;have BE:=zV7 (Gr.step B6.out hg7.below);have Z7:=zV7 (Z6.out.went hg7.below);clear z0 z1 z2 z3 z4 z5 z6 hg7;obtain⟨z0,z1,z2,z3,z4,z5,z6⟩:=Z7.out;generalize toOf (pick row 0 k)=x at*;have hm:max (P.row.length:Int) (P.gow.length:Int)=((max P.row.length P.gow.length:Nat):Int):=by omega
   by_cases h6:((max P.row.length P.gow.length:Nat):Int)<=x
   ·have G2:=zV7 (show g= -1 by rw[GT.out,if_pos h6]);clear GT;go_wp2_with fail
    all_goals
     go_ret;exact⟨Gr.zAx G2.out,BE.out⟩
   ·have G2:=zV7 (show g=x by rw[GT.out,if_neg h6]);clear GT;have h7:x<((max P.row.length P.gow.length:Nat):Int):=by omega
    go_wp2_with fail
    all_goals
     go_ret;exact⟨Gr.zAx G2.out,BE.out⟩
end Pk
namespace Pk
open Gr (Fits cell_later boxed)
theorem zIm{c}(h:Cd c):0<=(zAb c).1/\(zAb c).1<=3/\0<=(zAb c).2/\(zAb c).2<16384:=by
 unfold Cd at h;unfold zAb;split<;>dsimp only<;>omega
theorem zHH(P:Pd)(aR:Option Addr)(cR:Nat)(aW:Option Addr)(cW:Nat)(aX:Option Addr)(cX:Nat)(aG:Option Addr)(cG:Nat)(aH:Option Addr)(cH:Nat)(w:World)(hw1:P.row.length<=17592186044416)(hr1:P.rules.length<=4398046511104)(c:Int)(hc:Cd c):
  Calls Tryz.prog 82 #[.agg (pvs P aR cR aW cW aX cX aG cG aH cH),.int .u16 c] w (Gr.Is (.bool (okC P.row.length P.rules.length c)) w):=by
 have B1:=zV7 (boxed w (.cells (pvs P aR cR aW cW aX cX aG cG aH cH) 32));have Z1:=zV7 (zAr (P:=P) (aR:=aR) (cR:=cR) (aW:=aW) (cW:=cW) (aX:=aX) (cX:=cX) (aG:=aG) (cG:=cG) (aH:=aH) (cH:=cH) w 32);have AC:=zV7 (fun w1=>zD7 c hc w1);have hs:=zIm hc;have CO:=zV7 (fun w1=>zE2 (zAb c) hs w1);have OC:=zV7 (show okC P.row.length P.rules.length c=if(zAb c).1=1 then decide ((zAb c).2<(P.row.length:Int))else if(zAb c).1=2 then decide ((zAb c).2<(P.rules.length:Int)-1)else decide (zAw (zAb c)=c)from rfl);generalize okC P.row.length P.rules.length c=g at*;have hw:IntKind.i64.wrap ((P.rules.length:Int)-1)=(P.rules.length:Int)-1:=by rw[IntKind.wrap_i64];omega
 generalize zAw (zAb c)=cc at*;generalize zAb c=x at*;obtain⟨k,n⟩:=x;dsimp only at OC hs;clear hs;obtain⟨z0,z1,z2,z3,z4,z5,z6⟩:=Z1.out;unfold pvs at*;go_enter Tryz.func82,Tryz.ntmps82;go_wp2_with fail;generalize w.alloc (.cells #[.slice aR P.rules.length cR,.int .i64 P.terms,.int .i64 P.nons,.slice aW P.row.length cW,.slice aX P.rows.length cX,.slice aG P.gow.length cG,.slice aH P.gows.length cH] 32)=w2 at*;refine(AC.out _).mono ?_;rintro e w3 ⟨rfl,hb3⟩;have b4:=boxed w3 (.cells #[.int .i64 k,.int .i64 n] 57);have B4:=zV7 (Gr.step B1.out (Gr.step hb3 b4));have Z4:=zV7 (Z1.out.went (Gr.step hb3 b4));have Y4:=zAd w3 (.cells #[.int .i64 k,.int .i64 n] 57);have y0:=zAA Y4 (k:=0) (by simp);have y1:=zAA Y4 (k:=1) (by simp);simp only[List.getElem_toArray,List.getElem_cons_zero,List.getElem_cons_succ]at y0 y1;clear z0 z1 z2 z3 z4 z5 z6 hb3 b4 Z1 B1 Y4 AC;obtain⟨z0,z1,z2,z3,z4,z5,z6⟩:=Z4.out
 by_cases h1:k=1
 ·have G2:=zV7 (show g=decide (n<(P.row.length:Int))by rw[OC.out,if_pos h1]);subst h1;clear OC CO;go_wp2_with fail;go_ret;exact⟨Gr.zAD G2.out,B4.out⟩
 have hb1:(k==1)=false:=by rw[beq_eq_false_iff_ne];exact h1
 by_cases h2:k=2
 ·have G2:=zV7 (show g=decide (n<(P.rules.length:Int)-1)by rw[OC.out,if_neg h1,if_pos h2]);subst h2;clear OC CO;go_wp2_with fail;go_ret;exact⟨Gr.zAD G2.out,B4.out⟩
 have hb2:(k==2)=false:=by rw[beq_eq_false_iff_ne];exact h2
 have G2:=zV7 (show g=decide (cc=c)by rw[OC.out,if_neg h1,if_neg h2]);clear OC;go_wp2_with fail;generalize w3.alloc (.cells #[.int .i64 k,.int .i64 n] 57)=w4 at*;refine(CO.out _).mono ?_;rintro e w5 ⟨rfl,hb5⟩;have B5:=zV7 (Gr.step B4.out hb5);clear hb5;go_wp2_with fail;go_ret;refine⟨Gr.zAD ?_,B5.out⟩;rw[G2.out,Bool.eq_iff_iff,decide_eq_true_iff,beq_iff_eq]
theorem zOV(P:Pd)(aR:Option Addr)(cR:Nat)(aW:Option Addr)(cW:Nat)(aX:Option Addr)(cX:Nat)(aG:Option Addr)(cG:Nat)(aH:Option Addr)(cH b:Nat)(w:World)(Z:PBox P aR cR aW cW aX cX aG cG aH cH b w)(ht:0<=P.terms)(x:Int)(l:List Int)(a:Option Addr)(c:Nat)(hx:x<=9223372036854775807):
  Calls Tryz.prog 79 #[.agg #[.int .i64 x,.slice a l.length c],.pointer (some ⟨b,0,none⟩)] w (Gr.Is (.bool (!okL P.terms P.nons (x,l))) w):=by
 have b1:=boxed w (.cells #[.int .i64 x,.slice a l.length c] 55);have B1:=zV7 b1;obtain⟨z0,z1,z2,z3,z4,z5,z6⟩:=Z.went b1;clear b1 Z;have OL:=zV7 (show okL P.terms P.nons (x,l)=decide (P.terms<x/\x-P.terms<=P.nons)from rfl);generalize okL P.terms P.nons (x,l)=g at*
 by_cases h1:x<=P.terms
 ·have G2:=zV7 (show(!g)=true by rw[OL.out,decide_eq_false (by omega)];rfl);clear OL;go_enter Tryz.func79,Tryz.ntmps79;go_wp2_with fail;go_ret;exact⟨Gr.zAD G2.out,B1.out⟩
 have hw:IntKind.i64.wrap (x-P.terms)=x-P.terms:=by rw[IntKind.wrap_i64];omega
 have G2:=zV7 (show(!g)=decide (P.nons<x-P.terms)by
  rw[OL.out]
  by_cases h2:x-P.terms<=P.nons
  ·rw[decide_eq_true (by omega),decide_eq_false (by omega)];rfl
  ·rw[decide_eq_false (by omega),decide_eq_true (by omega)];rfl)
 clear OL;go_enter Tryz.func79,Tryz.ntmps79;go_wp2_with fail;go_ret;exact⟨Gr.zAD G2.out,B1.out⟩
theorem zMg(P:Pd)(aR:Option Addr)(cR:Nat)(aW:Option Addr)(cW:Nat)(aX:Option Addr)(cX:Nat)(aG:Option Addr)(cG:Nat)(aH:Option Addr)(cH b:Nat)(w:World)(Z:PBox P aR cR aW cW aX cX aG cG aH cH b w)(hw1:P.row.length<=17592186044416)(hr1:P.rules.length<=4398046511104)(c:Int)(hc:Cd c):
  Calls Tryz.prog 81 #[.int .u16 c,.pointer (some ⟨b,0,none⟩)] w (Gr.Is (.bool (!okC P.row.length P.rules.length c)) w):=by
 have RA:=zV7 (fun w1=>zHH P aR cR aW cW aX cX aG cG aH cH w1 hw1 hr1 c hc);generalize okC P.row.length P.rules.length c=g at*;obtain⟨z0,z1,z2,z3,z4,z5,z6⟩:=Z;unfold pvs at*;go_enter Tryz.func81,Tryz.ntmps81;go_wp2_with fail;refine(RA.out _).mono ?_;rintro e w5 ⟨rfl,hb5⟩;have B5:=zV7 hb5;clear hb5;go_wp2_with fail;go_ret;exact⟨rfl,B5.out⟩
theorem zM1(P:Pd)(aR:Option Addr)(cR:Nat)(aW:Option Addr)(cW:Nat)(aX:Option Addr)(cX:Nat)(aG:Option Addr)(cG:Nat)(aH:Option Addr)(cH b:Nat)(w:World)(Z:PBox P aR cR aW cW aX cX aG cG aH cH b w)(hw1:P.row.length<=17592186044416)(c:Int)(hc:Cd c):
  Calls Tryz.prog 83 #[.int .u16 c,.pointer (some ⟨b,0,none⟩)] w (Gr.Is (.bool (!okG P.row.length c)) w):=by
 have TA:=zV7 (fun w1=>zI5 (zEO c hc w1))
 have G2:=zV7 (show(!okG P.row.length c)=decide ((P.row.length:Int)<=toOf c)by
  unfold okG
  by_cases h2:toOf c<(P.row.length:Int)
  ·rw[decide_eq_true h2,decide_eq_false (by omega)];rfl
  ·rw[decide_eq_false h2,decide_eq_true (by omega)];rfl)
 generalize (!okG P.row.length c)=g at*;generalize toOf c=x at*;have mixed:Tryz.prog.follows .mixedOrders=true:=by kernel_rfl
 obtain⟨z0,z1,z2,z3,z4,z5,z6⟩:=Z;have hGw:∀m os,Gw w (Go.Sort.grow (w.drewN m) os):=fun m os=>⟨m,os,rfl⟩
 have k3:∀m os,(Go.Sort.grow (w.drewN m) os).cell? ⟨b,3,none⟩=some (.slice aW P.row.length cW):=fun m os=>cell_later (hGw m os).below z3
 have TAG:=zV7 (fun m os=>TA.out (Go.Sort.grow (w.drewN m) os));go_enter Tryz.func83,Tryz.ntmps83;go_wp2_with fail;refine wp_region_quiet_grown (by assumption) (by kernel_rfl) ?_
 repeat(first|go_big_quiet_skip|(go_big_quiet_want;go_big_quiet_op;first|go_big_quiet_on|go_big_quiet_call (first|(go_at_call 45;refine Calls.grown_of (TAG.out _ _))))|quiet_step (first|(go_at_call 45;refine Calls.grown_of (TAG.out _ _))))
 refine wpQuiet_nil ?_;intro _ hw';obtain⟨⟨nq,osq⟩,hw''⟩:=hw';subst hw'';have BE:=zV7 (hGw nq osq).below;clear hGw k3 TAG;generalize Go.Sort.grow (w.drewN nq) osq=w4 at*;go_wp2_with fail;go_ret;exact⟨Gr.zAD G2.out,BE.out⟩
def IdxR(b:Bool)(w:World)(e:Ending)(w':World):Prop:=∃z:Int,e=.returned (.int .i64 z)/\decide (0<=z)= !b/\Below w.heap.size w w'
theorem zJB(P:Pd)(aR:Option Addr)(cR:Nat)(aW:Option Addr)(cW:Nat)(aX:Option Addr)(cX:Nat)(aG:Option Addr)(cG:Nat)(aH:Option Addr)(cH b:Nat)(w:World)(Z:PBox P aR cR aW cW aX cX aG cG aH cH b w)(ht:0<=P.terms)(L:List (Int×List Int))(a:Option Addr)(c:Nat)(h:RulA a L w)(hl:L.length<=17592186044416)(hp:∀x∈L,Fits x.1):
  Calls Tryz.prog 101 #[.slice a L.length c,.func (.func 79) #[] #[.pointer (some ⟨b,0,none⟩)]] w (IdxR (L.all (okL P.terms P.nons)) w):=by
 have HR:=zV7 (fun w1 (b:Below w.heap.size w w1)=>h.went b);have HZ:=zV7 (fun w1 (b:Below w.heap.size w w1)=>Z.went b);have HP:=zV7 hp;have FT:=zV7 (fun i (hi:i<L.length) (e:okL P.terms P.nons L[i]=false)=>(show L.all (okL P.terms P.nons)=false from zAc hi e));have FE:=zV7 (fun i (h:(L.take i).all (okL P.terms P.nons)=true) (hi:¬i<L.length)=>(show L.all (okL P.terms P.nons)=true from zAt h hi));have ST:=zV7 (fun i (h:(L.take i).all (okL P.terms P.nons)=true) (hi:i<L.length) (e:okL P.terms P.nons L[i]=true)=>(show(L.take (i+1)).all (okL P.terms P.nons)=true from zAy h hi e));have Z0:=zV7 (zAz (okL P.terms P.nons) L);generalize L.all (okL P.terms P.nons)=g at*;clear h Z hp;go_enter Tryz.func101,Tryz.ntmps101;go_wp2_with fail;go_loopw [8] (fun v wr=>∃i:Nat,v=.int .i64 (i:Int)/\i<=L.length/\(L.take i).all (okL P.terms P.nons)=true/\Below w.heap.size w wr) (fun v _=>L.length-(intOf v).toNat)
 case atStart=>exact⟨0,rfl,Nat.zero_le _,Z0.out,.refl _ _⟩
 case round=>
  obtain⟨i,rfl,hi,hA,hB⟩:=hrel;have A:=zV7 hA;have B:=zV7 hB;clear hA hB
  by_cases hlt:i<L.length
  ·obtain⟨rb,ro,ra,rc,rfl,p0,p1,_,_⟩:=HR.out wr B.out i hlt;have FTi:=zV7 (FT.out i hlt);have STi:=zV7 (ST.out i A.out hlt);have hx:=HP.out _ (List.getElem_mem hlt);generalize L[i]=x at*;obtain⟨y,l⟩:=x;dsimp only at p0 p1 hx;unfold Fits at hx;have hil:(i:Int)<(L.length:Int):=by omega
   have CL:=zV7 (fun w1 (bb:Below w.heap.size w w1)=>zOV P aR cR aW cW aX cX aG cG aH cH b w1 (HZ.out w1 bb) ht y l ra rc hx.2);cases hok:okL P.terms P.nons (y,l)with
   |true=>
    have S2:=zV7 (STi.out hok);rw[hok]at CL;clear hok FTi STi hx;go_wp2_with fail;refine(CL.out _ B.out).mono ?_;rintro e w3 ⟨rfl,hb3⟩;have B3:=zV7 (Gr.step B.out hb3);clear hb3;go_wp2_with fail;go_roundw
    case rel=>exact⟨i+1,by go_num,by omega,S2.out,B3.out⟩
    case measure=>first|(simp[intOf];omega)|omega
   |false=>
    have F2:=zV7 (FTi.out hok);rw[hok]at CL;clear hok FTi STi hx;go_wp2_with fail;refine(CL.out _ B.out).mono ?_;rintro e w3 ⟨rfl,hb3⟩;have B3:=zV7 (Gr.step B.out hb3);clear hb3;go_wp2_with fail;go_ret;exact⟨(i:Int),rfl,by rw[F2.out,decide_eq_true (by omega)];rfl,B3.out⟩
  ·have F2:=zV7 (FE.out i A.out hlt);obtain rfl:i=L.length:=by omega
   go_wp2;go_ret;exact⟨-1,rfl,by rw[F2.out];decide,B.out⟩
theorem zF1(P)(aR)(cR)(aW)(cW)(aX)(cX)(aG)(cG)(aH)(cH b)(w)(Z:PBox P aR cR aW cW aX cX aG cG aH cH b w)(ht:0<=P.terms)(L)(a)(c)(h:RulA a L w)(hl:L.length<=17592186044416)(hp:∀x∈L,Fits x.1):
  Calls Tryz.prog 78 #[.slice a L.length c,.func (.func 79) #[] #[.pointer (some ⟨b,0,none⟩)]] w (Gr.Is (.bool (!L.all (okL P.terms P.nons))) w):=by
 have IX:=zV7 (zJB P aR cR aW cW aX cX aG cG aH cH b w Z ht L a c h hl hp);generalize (L.all (okL P.terms P.nons))=g at*;clear h Z hp;go_enter Tryz.func78,Tryz.ntmps78;go_wp2_with fail;refine IX.out.mono ?_;rintro e w3 ⟨z,rfl,hz,hb3⟩;have B3:=zV7 hb3;have HZ:=zV7 hz;clear hb3 hz;go_wp2_with fail;go_ret;exact⟨Gr.zAD HZ.out.symm,B3.out⟩
theorem zI9(P:Pd)(aR:Option Addr)(cR:Nat)(aW:Option Addr)(cW:Nat)(aX:Option Addr)(cX:Nat)(aG:Option Addr)(cG:Nat)(aH:Option Addr)(cH b:Nat)(w:World)(Z:PBox P aR cR aW cW aX cX aG cG aH cH b w)(hw1:P.row.length<=17592186044416)(hr1:P.rules.length<=4398046511104)(L:List Int)(a:Option Addr)(c:Nat)(h:CodA a L w)(hl:L.length<=17592186044416)(hp:∀x∈L,Cd x):
  Calls Tryz.prog 102 #[.slice a L.length c,.func (.func 81) #[] #[.pointer (some ⟨b,0,none⟩)]] w (IdxR (L.all (okC P.row.length P.rules.length)) w):=by
 have HR:=zV7 (fun w1 (b:Below w.heap.size w w1)=>h.went b);have HZ:=zV7 (fun w1 (b:Below w.heap.size w w1)=>Z.went b);have HP:=zV7 hp;have FT:=zV7 (fun i (hi:i<L.length) (e:okC P.row.length P.rules.length L[i]=false)=>(show L.all (okC P.row.length P.rules.length)=false from zAc hi e));have FE:=zV7 (fun i (h:(L.take i).all (okC P.row.length P.rules.length)=true) (hi:¬i<L.length)=>(show L.all (okC P.row.length P.rules.length)=true from zAt h hi));have ST:=zV7 (fun i (h:(L.take i).all (okC P.row.length P.rules.length)=true) (hi:i<L.length) (e:okC P.row.length P.rules.length L[i]=true)=>(show(L.take (i+1)).all (okC P.row.length P.rules.length)=true from zAy h hi e));have Z0:=zV7 (zAz (okC P.row.length P.rules.length) L);generalize L.all (okC P.row.length P.rules.length)=g at*;clear h Z hp;go_enter Tryz.func102,Tryz.ntmps102;go_wp2_with fail;go_loopw [8] (fun v wr=>∃i:Nat,v=.int .i64 (i:Int)/\i<=L.length/\(L.take i).all (okC P.row.length P.rules.length)=true/\Below w.heap.size w wr) (fun v _=>L.length-(intOf v).toNat)
 case atStart=>exact⟨0,rfl,Nat.zero_le _,Z0.out,.refl _ _⟩
 case round=>
  obtain⟨i,rfl,hi,hA,hB⟩:=hrel;have A:=zV7 hA;have B:=zV7 hB;clear hA hB
  by_cases hlt:i<L.length
  ·obtain⟨rb,ro,rfl,p0⟩:=(HR.out wr B.out).at hlt;have FTi:=zV7 (FT.out i hlt);have STi:=zV7 (ST.out i A.out hlt);have hx:=HP.out _ (List.getElem_mem hlt);generalize L[i]=x at*
   skip
   have hil:(i:Int)<(L.length:Int):=by omega
   have CL:=zV7 (fun w1 (bb:Below w.heap.size w w1)=>zMg P aR cR aW cW aX cX aG cG aH cH b w1 (HZ.out w1 bb) hw1 hr1 x hx);cases hok:okC P.row.length P.rules.length x with
   |true=>
    have S2:=zV7 (STi.out hok);rw[hok]at CL;clear hok FTi STi hx;go_wp2_with fail;refine(CL.out _ B.out).mono ?_;rintro e w3 ⟨rfl,hb3⟩;have B3:=zV7 (Gr.step B.out hb3);clear hb3;go_wp2_with fail;go_roundw
    case rel=>exact⟨i+1,by go_num,by omega,S2.out,B3.out⟩
    case measure=>first|(simp[intOf];omega)|omega
   |false=>
    have F2:=zV7 (FTi.out hok);rw[hok]at CL;clear hok FTi STi hx;go_wp2_with fail;refine(CL.out _ B.out).mono ?_;rintro e w3 ⟨rfl,hb3⟩;have B3:=zV7 (Gr.step B.out hb3);clear hb3;go_wp2_with fail;go_ret;exact⟨(i:Int),rfl,by rw[F2.out,decide_eq_true (by omega)];rfl,B3.out⟩
  ·have F2:=zV7 (FE.out i A.out hlt);obtain rfl:i=L.length:=by omega
   go_wp2;go_ret;exact⟨-1,rfl,by rw[F2.out];decide,B.out⟩
theorem zFz(P)(aR)(cR)(aW)(cW)(aX)(cX)(aG)(cG)(aH)(cH b)(w)(Z:PBox P aR cR aW cW aX cX aG cG aH cH b w)(hw1:P.row.length<=17592186044416)(hr1:P.rules.length<=4398046511104)(L)(a)(c)(h:CodA a L w)(hl:L.length<=17592186044416)(hp:∀x∈L,Cd x):
  Calls Tryz.prog 80 #[.slice a L.length c,.func (.func 81) #[] #[.pointer (some ⟨b,0,none⟩)]] w (Gr.Is (.bool (!L.all (okC P.row.length P.rules.length))) w):=by
 have IX:=zV7 (zI9 P aR cR aW cW aX cX aG cG aH cH b w Z hw1 hr1 L a c h hl hp);generalize (L.all (okC P.row.length P.rules.length))=g at*;clear h Z hp;go_enter Tryz.func80,Tryz.ntmps80;go_wp2_with fail;refine IX.out.mono ?_;rintro e w3 ⟨z,rfl,hz,hb3⟩;have B3:=zV7 hb3;have HZ:=zV7 hz;clear hb3 hz;go_wp2_with fail;go_ret;exact⟨Gr.zAD HZ.out.symm,B3.out⟩
theorem zJA(P:Pd)(aR:Option Addr)(cR:Nat)(aW:Option Addr)(cW:Nat)(aX:Option Addr)(cX:Nat)(aG:Option Addr)(cG:Nat)(aH:Option Addr)(cH b:Nat)(w:World)(Z:PBox P aR cR aW cW aX cX aG cG aH cH b w)(hw1:P.row.length<=17592186044416)(L:List Int)(a:Option Addr)(c:Nat)(h:CodA a L w)(hl:L.length<=17592186044416)(hp:∀x∈L,Cd x):
  Calls Tryz.prog 102 #[.slice a L.length c,.func (.func 83) #[] #[.pointer (some ⟨b,0,none⟩)]] w (IdxR (L.all (okG P.row.length)) w):=by
 have HR:=zV7 (fun w1 (b:Below w.heap.size w w1)=>h.went b);have HZ:=zV7 (fun w1 (b:Below w.heap.size w w1)=>Z.went b);have HP:=zV7 hp;have FT:=zV7 (fun i (hi:i<L.length) (e:okG P.row.length L[i]=false)=>(show L.all (okG P.row.length)=false from zAc hi e));have FE:=zV7 (fun i (h:(L.take i).all (okG P.row.length)=true) (hi:¬i<L.length)=>(show L.all (okG P.row.length)=true from zAt h hi));have ST:=zV7 (fun i (h:(L.take i).all (okG P.row.length)=true) (hi:i<L.length) (e:okG P.row.length L[i]=true)=>(show(L.take (i+1)).all (okG P.row.length)=true from zAy h hi e));have Z0:=zV7 (zAz (okG P.row.length) L);generalize L.all (okG P.row.length)=g at*;clear h Z hp;go_enter Tryz.func102,Tryz.ntmps102;go_wp2_with fail;go_loopw [8] (fun v wr=>∃i:Nat,v=.int .i64 (i:Int)/\i<=L.length/\(L.take i).all (okG P.row.length)=true/\Below w.heap.size w wr) (fun v _=>L.length-(intOf v).toNat)
 case atStart=>exact⟨0,rfl,Nat.zero_le _,Z0.out,.refl _ _⟩
 case round=>
  obtain⟨i,rfl,hi,hA,hB⟩:=hrel;have A:=zV7 hA;have B:=zV7 hB;clear hA hB
  by_cases hlt:i<L.length
  ·obtain⟨rb,ro,rfl,p0⟩:=(HR.out wr B.out).at hlt;have FTi:=zV7 (FT.out i hlt);have STi:=zV7 (ST.out i A.out hlt);have hx:=HP.out _ (List.getElem_mem hlt);generalize L[i]=x at*
   skip
   have hil:(i:Int)<(L.length:Int):=by omega
   have CL:=zV7 (fun w1 (bb:Below w.heap.size w w1)=>zM1 P aR cR aW cW aX cX aG cG aH cH b w1 (HZ.out w1 bb) hw1 x hx);cases hok:okG P.row.length x with
   |true=>
    have S2:=zV7 (STi.out hok);rw[hok]at CL;clear hok FTi STi hx;go_wp2_with fail;refine(CL.out _ B.out).mono ?_;rintro e w3 ⟨rfl,hb3⟩;have B3:=zV7 (Gr.step B.out hb3);clear hb3;go_wp2_with fail;go_roundw
    case rel=>exact⟨i+1,by go_num,by omega,S2.out,B3.out⟩
    case measure=>first|(simp[intOf];omega)|omega
   |false=>
    have F2:=zV7 (FTi.out hok);rw[hok]at CL;clear hok FTi STi hx;go_wp2_with fail;refine(CL.out _ B.out).mono ?_;rintro e w3 ⟨rfl,hb3⟩;have B3:=zV7 (Gr.step B.out hb3);clear hb3;go_wp2_with fail;go_ret;exact⟨(i:Int),rfl,by rw[F2.out,decide_eq_true (by omega)];rfl,B3.out⟩
  ·have F2:=zV7 (FE.out i A.out hlt);obtain rfl:i=L.length:=by omega
   go_wp2;go_ret;exact⟨-1,rfl,by rw[F2.out];decide,B.out⟩
theorem zF0(P)(aR)(cR)(aW)(cW)(aX)(cX)(aG)(cG)(aH)(cH b)(w)(Z:PBox P aR cR aW cW aX cX aG cG aH cH b w)(hw1:P.row.length<=17592186044416)(L)(a)(c)(h:CodA a L w)(hl:L.length<=17592186044416)(hp:∀x∈L,Cd x):
  Calls Tryz.prog 80 #[.slice a L.length c,.func (.func 83) #[] #[.pointer (some ⟨b,0,none⟩)]] w (Gr.Is (.bool (!L.all (okG P.row.length))) w):=by
 have IX:=zV7 (zJA P aR cR aW cW aX cX aG cG aH cH b w Z hw1 L a c h hl hp);generalize (L.all (okG P.row.length))=g at*;clear h Z hp;go_enter Tryz.func80,Tryz.ntmps80;go_wp2_with fail;refine IX.out.mono ?_;rintro e w3 ⟨z,rfl,hz,hb3⟩;have B3:=zV7 hb3;have HZ:=zV7 hz;clear hb3 hz;go_wp2_with fail;go_ret;exact⟨Gr.zAD HZ.out.symm,B3.out⟩
