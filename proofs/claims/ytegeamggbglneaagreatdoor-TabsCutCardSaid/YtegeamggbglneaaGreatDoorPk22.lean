/- Proof. -/
import Derived.Test.YtegeamggbglneaaGreatDoorPk21
set_option maxHeartbeats 8000000
set_option maxRecDepth 100000
set_option linter.unusedVariables false
namespace Go.Proofs.YtegeamggbglneaaGreatDoor
open Go.RowKit Go.Maps
namespace Ts
open Pk
open Gr (cell_later boxed)
open Go.Proofs.YtegeamggbglneaaGreatDoor.Sep (Fr)
structure uS {α:Type} (f:St->α×St) (V:α->Prop):Prop where
 ok:∀s,By s.1->V (f s).1/\By (f s).2.1
theorem tj:uS num Cd:=⟨fun s h=>⟨EL h,Ow h⟩⟩
theorem Ex{α}{f}{V:α->Prop}(h:uS f V)(n):uS (many f n) (fun l=>l.length<=n/\∀x∈l,V x):=by
 refine⟨fun s hs=>?_⟩
 induction n with
 |zero=>exact⟨⟨Nat.le_refl _,fun x hx=>by cases hx⟩,hs⟩
 |succ n ih=>
  rw[many];split
  ·exact⟨⟨by have:=ih.1.1;omega,ih.1.2⟩,ih.2⟩
  ·have h2:=h.ok _ ih.2;refine⟨⟨by rw[List.length_append];have:=ih.1.1;simp only[List.length_cons,List.length_nil];omega,fun x hx=>?_⟩,h2.2⟩;rw[List.mem_append,List.mem_singleton]at hx;rcases hx with hx|rfl
   ·exact ih.1.2 x hx
   ·exact h2.1
theorem H9(n):uS (line n) (fun l=>l.length<=n.toNat/\∀x∈l,Cd x):=Ex tj _
def Jw(r:Int×List Int):Prop:=Cd r.1/\r.2.length<=65535/\∀x∈r.2,Cd x
theorem XY:uS rule Jw:=⟨fun s h=>by
 have h1:=tj.ok s h;have h2:=tj.ok _ h1.2;have h3:=(H9 (num (num s).2).1).ok _ h2.2;have:=h2.1;unfold Cd at this
 exact⟨⟨h1.1,(show(line (num (num s).2).1 (num (num s).2).2).1.length<=65535 from by have:=h3.1.1;omega),h3.1.2⟩,h3.2⟩⟩
theorem zV3:uS ky (fun l=>l.length<=65535/\∀x∈l,Jw x):=⟨fun s h=>by
 have h1:=tj.ok s h;have h3:=(Ex XY (num s).1.toNat).ok _ h1.2;have:=h1.1;unfold Cd at this
 exact⟨⟨(show(many rule (num s).1.toNat (num s).2).1.length<=65535 from by have:=h3.1.1;omega),h3.1.2⟩,h3.2⟩⟩
theorem XV(k):uS (rows k) (fun l=>l.length<=65535/\∀r∈l,r.length<=k.toNat/\∀x∈r,Cd x):=⟨fun s h=>by
 have h1:=tj.ok s h;have h3:=(Ex (H9 k) (num s).1.toNat).ok _ h1.2;have:=h1.1;unfold Cd at this
 exact⟨⟨(show(many (line k) (num s).1.toNat (num s).2).1.length<=65535 from by have:=h3.1.1;omega),h3.1.2⟩,h3.2⟩⟩
structure VT (P:Pd):Prop where
 t:Cd P.terms
 n:Cd P.ah
 rules:P.rules.length<=65535/\∀r∈P.rules,Jw r
 row:P.row.length<=65535/\∀x∈P.row,Cd x
 rows:P.rows.length<=65535/\∀r∈P.rows,r.length<=65536/\∀x∈r,Cd x
 bj:P.bj.length<=65535/\∀x∈P.bj,Cd x
 aj:P.aj.length<=65535/\∀r∈P.aj,r.length<=65536/\∀x∈r,Cd x
theorem IC:uS table VT:=⟨fun s hs=>by
 unfold table;dsimp only;have h1:=tj.ok s hs;generalize num s=t at*;have h2:=tj.ok t.2 h1.2;generalize num t.2=n at*;have h3:=zV3.ok n.2 h2.2;generalize ky n.2=r at*;have h4:=tj.ok r.2 h3.2;generalize num r.2=z at*;have h5:=(H9 z.1).ok z.2 h4.2;generalize line z.1 z.2=a at*;have h6:=(XV (t.1+1)).ok a.2 h5.2;generalize rows (t.1+1) a.2=x at*;have h7:=(H9 z.1).ok x.2 h6.2;generalize line z.1 x.2=g at*;have h8:=(XV n.1).ok g.2 h7.2;generalize rows n.1 g.2=q at*;have c1:=h1.1;have c2:=h2.1;have c4:=h4.1;unfold Cd at c1 c2 c4
 refine⟨⟨h1.1,h2.1,h3.1,⟨by have:=h5.1.1;dsimp only;omega,h5.1.2⟩,⟨h6.1.1,fun r hr=>⟨by have:=(h6.1.2 r hr).1;omega,(h6.1.2 r hr).2⟩⟩,⟨by have:=h7.1.1;dsimp only;omega,h7.1.2⟩,⟨h8.1.1,fun r hr=>⟨by have:=(h8.1.2 r hr).1;omega,(h8.1.2 r hr).2⟩⟩⟩,h8.2⟩⟩
theorem VT.fit{P}(h:VT P):Ay P:=by
 have fc:∀x,Cd x->Gr.Fits x:=fun x hx=>by unfold Cd at hx;unfold Gr.Fits;omega
 exact⟨fc _ h.t,fc _ h.n,fun r hr=>fc _ (h.rules.2 r hr).1,fun r hr x hx=>fc _ ((h.rules.2 r hr).2.2 x hx),fun x hx=>fc _ (h.row.2 x hx),fun x hx=>fc _ (h.bj.2 x hx),fun r hr=>(h.rows.2 r hr).2,fun r hr=>(h.aj.2 r hr).2⟩
theorem VT.sm{P}(h:VT P):uT P:=
 ⟨by have:=h.rules.1;omega,by have:=h.row.1;omega,by have:=h.bj.1;omega,by have:=h.rows.1;omega,by have:=h.aj.1;omega,fun r hr=>by have:=(h.rules.2 r hr).2.1;omega,fun r hr=>by have:=(h.rows.2 r hr).1;omega,fun r hr=>by have:=(h.aj.2 r hr).1;omega⟩
structure fZ (q:Nat) (P:Pd) (aR:Option Addr) (cR:Nat) (aW:Option Addr) (cW:Nat) (aX:Option Addr) (cX:Nat) (aG:Option Addr) (cG:Nat) (aH:Option Addr) (cH:Nat) (w:World):Prop where
 box:w.heap[q]?=some (.cells #[.slice aR P.rules.length cR,.int .i64 P.terms,.int .i64 P.ah,.slice aW P.row.length cW,.slice aX P.rows.length cX,.slice aG P.bj.length cG,.slice aH P.aj.length cH] 32 (0,0))
 rules:fA aR P.rules w
 row:dv aW P.row w
 rows:lB aX P.rows w
 bj:dv aG P.bj w
 aj:lB aH P.aj w
 rc:P.rules.length<=cR
 wc:P.row.length<=cW
 xc:P.rows.length<=cX
 gc:P.bj.length<=cG
 hc:P.aj.length<=cH
section
variable {q:Nat} {P:Pd} {aR aW aX aG aH:Option Addr} {cR cW cX cG cH:Nat} {w w':World}
theorem fZ.ty(h:fZ q P aR cR aW cW aX cX aG cG aH cH w):Ty q 32 w:=⟨_,_,h.box⟩
theorem fZ.kept(h:fZ q P aR cR aW cW aX cX aG cG aH cH w){p}{U}(hp:Ty p U w)(h1:32≠U)(h2:3≠U)(h3:55≠U)(h4:48≠U)(h5:66≠U)(hg:w.grownBy w' (some p)):fZ q P aR cR aW cW aX cX aG cG aH cH w':=
 ⟨(h.ty.kept hp h1 hg).trans h.box,h.rules.kept hp h2 h3 hg,h.row.kept hp h2 hg,h.rows.kept hp h4 h5 hg,h.bj.kept hp h2 hg,h.aj.kept hp h4 h5 hg,h.rc,h.wc,h.xc,h.gc,h.hc⟩
theorem fZ.set0(h:fZ q P aR cR aW cW aX cX aG cG aH cH w){R}{a}{c}(hR:fA a R w)(hc:R.length<=c):fZ q {P with rules:=R} a c aW cW aX cX aG cG aH cH (w.setCell ⟨q,0,none⟩ (.slice a R.length c)):=by
 have g:=Rg.jg w q 0 (.slice a R.length c);exact⟨ft h.box _,hR.kept h.ty (by decide) (by decide) g,h.row.kept h.ty (by decide) g,h.rows.kept h.ty (by decide) (by decide) g,h.bj.kept h.ty (by decide) g,h.aj.kept h.ty (by decide) (by decide) g,hc,h.wc,h.xc,h.gc,h.hc⟩
theorem fZ.Ma(h:fZ q P aR cR aW cW aX cX aG cG aH cH w){R}{a}{c}(hR:dv a R w)(hc:R.length<=c):fZ q {P with row:=R} aR cR a c aX cX aG cG aH cH (w.setCell ⟨q,3,none⟩ (.slice a R.length c)):=by
 have g:=Rg.jg w q 3 (.slice a R.length c);exact⟨ft h.box _,h.rules.kept h.ty (by decide) (by decide) g,hR.kept h.ty (by decide) g,h.rows.kept h.ty (by decide) (by decide) g,h.bj.kept h.ty (by decide) g,h.aj.kept h.ty (by decide) (by decide) g,h.rc,hc,h.xc,h.gc,h.hc⟩
theorem fZ.Mb(h:fZ q P aR cR aW cW aX cX aG cG aH cH w){R}{a}{c}(hR:lB a R w)(hc:R.length<=c):fZ q {P with rows:=R} aR cR aW cW a c aG cG aH cH (w.setCell ⟨q,4,none⟩ (.slice a R.length c)):=by
 have g:=Rg.jg w q 4 (.slice a R.length c);exact⟨ft h.box _,h.rules.kept h.ty (by decide) (by decide) g,h.row.kept h.ty (by decide) g,hR.kept h.ty (by decide) (by decide) g,h.bj.kept h.ty (by decide) g,h.aj.kept h.ty (by decide) (by decide) g,h.rc,h.wc,hc,h.gc,h.hc⟩
theorem fZ.kY(h:fZ q P aR cR aW cW aX cX aG cG aH cH w){R}{a}{c}(hR:dv a R w)(hc:R.length<=c):fZ q {P with bj:=R} aR cR aW cW aX cX a c aH cH (w.setCell ⟨q,5,none⟩ (.slice a R.length c)):=by
 have g:=Rg.jg w q 5 (.slice a R.length c);exact⟨ft h.box _,h.rules.kept h.ty (by decide) (by decide) g,h.row.kept h.ty (by decide) g,h.rows.kept h.ty (by decide) (by decide) g,hR.kept h.ty (by decide) g,h.aj.kept h.ty (by decide) (by decide) g,h.rc,h.wc,h.xc,hc,h.hc⟩
theorem fZ.jK(h:fZ q P aR cR aW cW aX cX aG cG aH cH w){R}{a}{c}(hR:lB a R w)(hc:R.length<=c):fZ q {P with aj:=R} aR cR aW cW aX cX aG cG a c (w.setCell ⟨q,6,none⟩ (.slice a R.length c)):=by
 have g:=Rg.jg w q 6 (.slice a R.length c);exact⟨ft h.box _,h.rules.kept h.ty (by decide) (by decide) g,h.row.kept h.ty (by decide) g,h.rows.kept h.ty (by decide) (by decide) g,h.bj.kept h.ty (by decide) g,hR.kept h.ty (by decide) (by decide) g,h.rc,h.wc,h.xc,h.gc,hc⟩
theorem fZ.new{w:World}{t n}:fZ w.heap.size ⟨[],t,n,[],[],[],[]⟩ none 0 none 0 none 0 none 0 none 0 (w.alloc (.cells #[.slice none 0 0,.int .i64 t,.int .i64 n,.slice none 0 0,.slice none 0 0,.slice none 0 0,.slice none 0 0] 32)):=
 ⟨gJ _ _,.nil _,.nil _,.nil _,.nil _,.nil _,Nat.le_refl _,Nat.le_refl _,Nat.le_refl _,Nat.le_refl _,Nat.le_refl _⟩
end
structure PT (P:Pd) (aR:Option Addr) (cR:Nat) (aW:Option Addr) (cW:Nat) (aX:Option Addr) (cX:Nat) (aG:Option Addr) (cG:Nat) (aH:Option Addr) (cH:Nat) (w:World):Prop where
 rules:fA aR P.rules w
 row:dv aW P.row w
 rows:lB aX P.rows w
 bj:dv aG P.bj w
 aj:lB aH P.aj w
 rc:P.rules.length<=cR
 wc:P.row.length<=cW
 xc:P.rows.length<=cX
 gc:P.bj.length<=cG
 hc:P.aj.length<=cH
section
variable {q:Nat} {P:Pd} {aR aW aX aG aH:Option Addr} {cR cW cX cG cH:Nat} {w w':World}
theorem fZ.pt(h:fZ q P aR cR aW cW aX cX aG cG aH cH w):PT P aR cR aW cW aX cX aG cG aH cH w:=⟨h.rules,h.row,h.rows,h.bj,h.aj,h.rc,h.wc,h.xc,h.gc,h.hc⟩
theorem PT.box(h:PT P aR cR aW cW aX cX aG cG aH cH w)(hq:Ty q 32 w)(f:Fr (fun x=>x=q) w w'):PT P aR cR aW cW aX cX aG cG aH cH w':=
 ⟨h.rules.kept hq (by decide) (by decide) (uB f),h.row.kept hq (by decide) (uB f),h.rows.kept hq (by decide) (by decide) (uB f),h.bj.kept hq (by decide) (uB f),h.aj.kept hq (by decide) (by decide) (uB f),h.rc,h.wc,h.xc,h.gc,h.hc⟩
theorem PT.went(h:PT P aR cR aW cW aX cX aG cG aH cH w)(hb:Below w.heap.size w w'):PT P aR cR aW cW aX cX aG cG aH cH w':=
 ⟨h.rules.went hb,h.row.went hb,h.rows.went hb,h.bj.went hb,h.aj.went hb,h.rc,h.wc,h.xc,h.gc,h.hc⟩
theorem PT.pat(h:PT P aR cR aW cW aX cX aG cG aH cH w)(hv:VT P):dX P aR cR aW cW aX cX aG cG aH cH w:=
 ⟨h.rules.plain,h.row.1,h.rows.plain,h.bj.1,h.aj.plain,h.rc,h.wc,h.xc,h.gc,h.hc,by have:=hv.rules.1;omega,by have:=hv.row.1;omega,by have:=hv.rows.1;omega,by have:=hv.bj.1;omega,by have:=hv.aj.1;omega,hv.fit⟩
end
theorem zRf{p b m:Nat}{s:St}{w:World}(h:aT 93 p b s w)(hm:m<=70000):Calls Tryz.prog 92 #[.pointer (some ⟨p,0,none⟩),.int .i64 (m:Int)] w (tu 93 p b (rows (m:Int) s) w):=by
 have hpl:=h.pl;have hn:=EL h.j0;obtain⟨n,hn'⟩:∃n:Nat,(num s).1=(n:Int):=⟨_,(Int.toNat_of_nonneg hn.1).symm⟩;have b1:=boxed w (.cells #[.pointer (some ⟨p,0,none⟩)] 137);have b2:=boxed (w.alloc (.cells #[.pointer (some ⟨p,0,none⟩)] 137)) (.cells #[.int .i64 (m:Int)] 3);have R2:=af (h.went (Gr.step b1 b2));have hq1:((w.alloc (.cells #[.pointer (some ⟨p,0,none⟩)] 137)).alloc (.cells #[.int .i64 (m:Int)] 3)).cell? ⟨w.heap.size,0,none⟩=some (.pointer (some ⟨p,0,none⟩)):=cell_later b2 (Gr.bg (by simp) rfl)
 have hq2:((w.alloc (.cells #[.pointer (some ⟨p,0,none⟩)] 137)).alloc (.cells #[.int .i64 (m:Int)] 3)).cell? ⟨w.heap.size+1,0,none⟩=some (.int .i64 (m:Int)):=by
  have:=aF (gJ (w.alloc (.cells #[.pointer (some ⟨p,0,none⟩)] 137)) (.cells #[.int .i64 (m:Int)] 3)) (k:=0) (by simp)
  rwa [World.size_alloc]at this
 have F2:=af (Fr.of_below (S:=fun x=>x=p) (Gr.step b1 b2));clear h b1 b2;go_enter Tryz.func92,Tryz.ntmps92;have e2:rows (m:Int) s=many (line (m:Int)) n (num s).2:=by unfold rows;rw[hn'];rfl
 rw[e2];go_wp2_with fail;generalize (w.alloc (.cells #[.pointer (some ⟨p,0,none⟩)] 137)).alloc (.cells #[.int .i64 (m:Int)] 3)=w2 at*;have hs2:=R2.out.pl;have NA:=af (wB (R2.out.keep (w':=w2.drew) rfl (fun _=>rfl)));have RR:=af (fun w1 (h1:aT 93 p b (num s).2 w1) hq1 hq2=>zOe (n:=n) (q1:=w.heap.size) (q2:=w.heap.size+1) (m:=m) hq1 hq2 (by omega) (by omega) hm h1 (by omega));unfold lU at NA;unfold tu qf at RR⊢;rw[hn']at NA;generalize many (line (m:Int)) n (num s).2=q3 at*;generalize (num s).2=s1 at*;obtain⟨X,s3⟩:=q3;dsimp only at*;have HQ:=af (fun(w':World) (f:Fr (fun x=>x=p) w2 w')=>(show w'.cell? ⟨w.heap.size,0,none⟩=some (.pointer (some ⟨p,0,none⟩))/\w'.cell? ⟨w.heap.size+1,0,none⟩=some (.int .i64 (m:Int))/\Fr (fun x=>x=p) w2 w' from⟨f.cell hq1 (by show¬w.heap.size=p;omega),f.cell hq2 (by show¬w.heap.size+1=p;omega),f⟩));have gh:=(Fr.refl (fun x=>x=p) w2).drew;clear e2 hn' R2
 go_region_held3 (fun w'=>w'.cell? ⟨w.heap.size,0,none⟩=some (.pointer (some ⟨p,0,none⟩))/\w'.cell? ⟨w.heap.size+1,0,none⟩=some (.int .i64 (m:Int))/\Fr (fun x=>x=p) w2 w')
  (exact HQ.out _ (by with_reducible assumption))
  (first
   |(go_at_call 88;(with_reducible refine(NA.out).mono ?_);rintro e wa ⟨rfl,hr1,d9⟩;have kA:Fr (fun x=>x=p) w2 wa:=mD gh d9;have R3:=af hr1;clear hr1 d9)
   |(go_at_call 104;(with_reducible refine(RR.out _ R3.out (HQ.out _ kA).1 (HQ.out _ kA).2.1).mono ?_);rintro e wb ⟨ra,rc,rfl,hc,hrc,hr2,hf2⟩;have kB:Fr (fun x=>x=p) w2 wb:=mD kA hf2;have R4:=af hr2;have C4:=af hc;clear hr2 hf2 hc)
   |fail)
 all_goals
  go_wp2_with fail;go_ret;exact⟨ra,rc,rfl,C4.out,hrc,R4.out,mD F2.out kB⟩
end Ts
namespace Ts
open Pk
open Gr (boxed)
open Go.Proofs.YtegeamggbglneaaGreatDoor.Sep (Fr)
def zZ(T:TypeId)(p b:Nat)(q:Pd×St)(w:World)(e:Ending)(w':World):Prop:=
 ∃aR cR aW cW aX cX aG cG aH cH,e=.returned (.agg (bU q.1 aR cR aW cW aX cX aG cG aH cH))/\PT q.1 aR cR aW cW aX cX aG cG aH cH w'/\aT T p b q.2 w'/\Fr (fun x=>x=p) w w'
structure Parts (s:St) (t n c z:Nat) (R:List (Int×List Int)) (W:List Int) (X:List (List Int)) (G:List Int) (H:List (List Int)) (s1 s2 s3 s4 s5 s6 s7 s8 s9:St):Prop where
 e1:num s=((t:Int),s1)
 e2:num s1=((n:Int),s2)
 e3:num s2=((c:Int),s3)
 e4:many rule c s3=(R,s4)
 e5:num s4=((z:Int),s5)
 e6:many num z s5=(W,s6)
 e7:rows ((t:Int)+1) s6=(X,s7)
 e8:many num z s7=(G,s8)
 e9:rows (n:Int) s8=(H,s9)
 ct:t<=65535
 cn:n<=65535
 cc:c<=65535
 cz:z<=65535
 all:table s=(⟨R,(t:Int),(n:Int),W,X,G,H⟩,s9)
theorem H6{s:St}(h:By s.1):∃(t:Nat) (s1:St),num s=((t:Int),s1)/\t<=65535/\By s1.1:=by
 have h1:=tj.ok s h;have h2:=h1.1;unfold Cd at h2;exact⟨(num s).1.toNat,(num s).2,by rw[Int.toNat_of_nonneg h2.1],by omega,h1.2⟩
theorem zRL{s:St}(h:By s.1):∃t n c z R W X G H s1 s2 s3 s4 s5 s6 s7 s8 s9,Parts s t n c z R W X G H s1 s2 s3 s4 s5 s6 s7 s8 s9:=by
 obtain⟨t,s1,e1,ct,b1⟩:=H6 h;obtain⟨n,s2,e2,cn,b2⟩:=H6 b1;obtain⟨c,s3,e3,cc,b3⟩:=H6 b2;have o4:=((Ex XY c).ok s3 b3).2;obtain⟨R,s4,e4⟩:∃R s4,many rule c s3=(R,s4):=⟨_,_,rfl⟩;rw[e4]at o4;obtain⟨z,s5,e5,cz,b5⟩:=H6 o4;have o6:=((Ex tj z).ok s5 b5).2;obtain⟨W,s6,e6⟩:∃W s6,many num z s5=(W,s6):=⟨_,_,rfl⟩;obtain⟨X,s7,e7⟩:∃X s7,rows ((t:Int)+1) s6=(X,s7):=⟨_,_,rfl⟩;obtain⟨G,s8,e8⟩:∃G s8,many num z s7=(G,s8):=⟨_,_,rfl⟩;obtain⟨H,s9,e9⟩:∃H s9,rows (n:Int) s8=(H,s9):=⟨_,_,rfl⟩;refine⟨t,n,c,z,R,W,X,G,H,s1,s2,s3,s4,s5,s6,s7,s8,s9,e1,e2,e3,e4,e5,e6,e7,e8,e9,ct,cn,cc,cz,?_⟩;have l6:line (z:Int) s5=(W,s6):=e6;have l8:line (z:Int) s7=(G,s8):=e8;have l4:many rule ((c:Nat):Int).toNat s3=(R,s4):=e4;unfold table ky;simp only[e1,e2,e3,l4,e5,l6,e7,l8,e9]
section
variable {p b:Nat} {s s':St} {w:World}
theorem G7(h:aT 93 p b s w){t:Nat}(e:num s=((t:Int),s')):Calls Tryz.prog 88 #[.pointer (some ⟨p,0,none⟩)] w (fun e w'=>e=.returned (.int .i64 (t:Int))/\aT 93 p b s' w'/\Fr (fun x=>x=p) w w'):=by
 have:=wB h;unfold lU at this
 rwa [e]at this
theorem ints_at(h:aT 93 p b s w){n:Nat}(hn:n<=65535){L:List Int}(e:many num n s=(L,s')):Calls Tryz.prog 91 #[.pointer (some ⟨p,0,none⟩),.int .i64 (n:Int),.func (.func 88) #[.pointer (some ⟨p,0,none⟩)] #[]] w
  (fun e w'=>∃a c,e=.returned (.slice a L.length c)/\dv a L w'/\L.length<=c/\aT 93 p b s' w'/\Fr (fun x=>x=p) w w'):=by
 have:=WM h (n:=n) (by omega);unfold wX qf at this
 rwa [e]at this
theorem zRj(h:aT 93 p b s w){n:Nat}(hn:n<=65535){L:List (Int×List Int)}(e:many rule n s=(L,s')):Calls Tryz.prog 89 #[.pointer (some ⟨p,0,none⟩),.int .i64 (n:Int),.func (.func 90) #[.pointer (some ⟨p,0,none⟩)] #[]] w
  (fun e w'=>∃a c,e=.returned (.slice a L.length c)/\fA a L w'/\L.length<=c/\aT 93 p b s' w'/\Fr (fun x=>x=p) w w'):=by
 have:=zOf h (n:=n) (by omega);unfold Ao qf at this
 rwa [e]at this
theorem Yf(h:aT 93 p b s w){n:Nat}(hn:n<=65536){L:List (List Int)}(e:rows (n:Int) s=(L,s')):Calls Tryz.prog 92 #[.pointer (some ⟨p,0,none⟩),.int .i64 (n:Int)] w
  (fun e w'=>∃a c,e=.returned (.slice a L.length c)/\lB a L w'/\L.length<=c/\aT 93 p b s' w'/\Fr (fun x=>x=p) w w'):=by
 have:=zRf h (m:=n) (by omega);unfold tu qf at this
 rwa [e]at this
theorem fZ.read{q:Nat}{P:Pd}{aR aW aX aG aH:Option Addr}{cR cW cX cG cH:Nat}{w':World}(h:fZ q P aR cR aW cW aX cX aG cG aH cH w)(hr:aT 93 p b s w)(hf:Fr (fun x=>x=p) w w'):fZ q P aR cR aW cW aX cX aG cG aH cH w':=
 h.kept hr.ty (by decide) (by decide) (by decide) (by decide) (by decide) (uB hf)
theorem aT.store{T:TypeId}{q k:Nat}{v:Value}(h:aT T p b s w)(hq:p<q):aT T p b s (w.setCell ⟨q,k,none⟩ v):=h.fr ((Fr.refl (fun x=>x=q) w).setCell ⟨q,k,none⟩ rfl v) hq
end
structure TS (w:World) (p b q:Nat) (s:St) (P:Pd) (aR:Option Addr) (cR:Nat) (aW:Option Addr) (cW:Nat) (aX:Option Addr) (cX:Nat) (aG:Option Addr) (cG:Nat) (aH:Option Addr) (cH:Nat) (wk:World):Prop where
 rd:aT 93 p b s wk
 pk:fZ q P aR cR aW cW aX cX aG cG aH cH wk
 fr:Fr (fun x=>x=p) w wk
 res:wk.heap[w.heap.size]?=some (.cells dH 32 (0,0))
 hp:p<w.heap.size
 hq:w.heap.size<q
section
variable {w:World} {p b q:Nat} {s s':St} {P:Pd} {aR aW aX aG aH:Option Addr} {cR cW cX cG cH:Nat} {wk w':World}
theorem TS.read(h:TS w p b q s P aR cR aW cW aX cX aG cG aH cH wk)(hr:aT 93 p b s' w')(hf:Fr (fun x=>x=p) wk w'):TS w p b q s' P aR cR aW cW aX cX aG cG aH cH w':=
 ⟨hr,h.pk.read h.rd hf,mD h.fr hf,(hf.block _ (Array.getElem?_eq_some_iff.1 h.res).1 (by have:=h.hp;omega)).trans h.res,h.hp,h.hq⟩
theorem TS.put(h:TS w p b q s P aR cR aW cW aX cX aG cG aH cH wk){P':Pd}{Ql Qm Qn oQ Qk:Option Addr}{Qs Qt Qu fQ Qr:Nat}{k:Nat}{v:Value}(hk:fZ q P' Ql Qs Qm Qt Qn Qu oQ fQ Qk Qr (wk.setCell ⟨q,k,none⟩ v)):TS w p b q s P' Ql Qs Qm Qt Qn Qu oQ fQ Qk Qr (wk.setCell ⟨q,k,none⟩ v):=by
 have hp:=h.hp;have hq:=h.hq;have f:=(Fr.refl (fun x=>x=q) wk).setCell ⟨q,k,none⟩ rfl v;exact⟨h.rd.store (by omega),hk,h.fr.kZ ⟨q,k,none⟩ (by show w.heap.size<=q;omega) v,(f.block _ (Array.getElem?_eq_some_iff.1 h.res).1 (by omega)).trans h.res,hp,hq⟩
theorem TS.cells(h:TS w p b q s P aR cR aW cW aX cX aG cG aH cH wk):wk.cell? ⟨q,0,none⟩=some (.slice aR P.rules.length cR)/\wk.cell? ⟨q,1,none⟩=some (.int .i64 P.terms)/\wk.cell? ⟨q,2,none⟩=some (.int .i64 P.ah)/\wk.cell? ⟨q,3,none⟩=some (.slice aW P.row.length cW)/\wk.cell? ⟨q,4,none⟩=some (.slice aX P.rows.length cX)/\
  wk.cell? ⟨q,5,none⟩=some (.slice aG P.bj.length cG)/\wk.cell? ⟨q,6,none⟩=some (.slice aH P.aj.length cH)/\∀k,wk.frozen? ⟨q,k,none⟩=false:=
 ⟨aF h.pk.box (k:=0) (by simp),aF h.pk.box (k:=1) (by simp),aF h.pk.box (k:=2) (by simp),aF h.pk.box (k:=3) (by simp),aF h.pk.box (k:=4) (by simp),aF h.pk.box (k:=5) (by simp),aF h.pk.box (k:=6) (by simp),fun k=>fu h.pk.box⟩
theorem TS.done(h:TS w p b q s P aR cR aW cW aX cX aG cG aH cH wk):
  zZ 93 p b (P,s) w (.returned (.agg #[.slice aR P.rules.length cR,.int .i64 P.terms,.int .i64 P.ah,.slice aW P.row.length cW,.slice aX P.rows.length cX,.slice aG P.bj.length cG,.slice aH P.aj.length cH]))
   (cK wk w.heap.size (.slice aR P.rules.length cR) (.int .i64 P.terms) (.int .i64 P.ah) (.slice aW P.row.length cW) (.slice aX P.rows.length cX) (.slice aG P.bj.length cG) (.slice aH P.aj.length cH)):=by
 have f:=EC wk w.heap.size (.slice aR P.rules.length cR) (.int .i64 P.terms) (.int .i64 P.ah) (.slice aW P.row.length cW) (.slice aX P.rows.length cX) (.slice aG P.bj.length cG) (.slice aH P.aj.length cH);have hq:=h.hq;have kk:=h.pk.pt.box (q:=w.heap.size) ⟨_,_,h.res⟩ f;exact⟨aR,cR,aW,cW,aX,cX,aG,cG,aH,cH,rfl,kk,h.rd.fr f h.hp,h.fr.trans f fun x hx=> .inr (by omega)⟩
end
theorem Hb{p b:Nat}{s:St}{w:World}(h:aT 93 p b s w):Calls Tryz.prog 56 #[.pointer (some ⟨p,0,none⟩)] w (zZ 93 p b (table s) w):=by
 obtain⟨t,n,c,z,R,W,X,G,H,s1,s2,s3,s4,s5,s6,s7,s8,s9,hP⟩:=zRL h.j0;rw[hP.all];have P:=af hP;have hpl:=h.pl;have ct:=hP.ct;have cn:=hP.cn;have E7:=af (show rows ((t+1:Nat):Int) s6=(X,s7)from by have:=hP.e7;rwa [show(t:Int)+1=((t+1:Nat):Int)by omega]at this);clear hP;have B1:=boxed w (.cells dH 32);have N1:=af (G7 (h.went B1) P.out.e1);have Y1:=af (gJ w (.cells dH 32));have F0:=af (Fr.of_below (S:=fun x=>x=p) B1);have hw1:IntKind.i64.wrap ((t:Int)+1)=(t:Int)+1:=by rw[IntKind.wrap_i64];omega
 have hw2:((t+1:Nat):Int)=(t:Int)+1:=by omega
 clear h B1
 have START:=af (fun(w1 w2:World) (d9:Fr (fun x=>x=p) (w.alloc (.cells dH 32)) w1) (hf:Fr (fun x=>x=p) w1 w2) (hr:aT 93 p b s2 w2)=>(show TS w p b w2.heap.size s2 ⟨[],t,n,[],[],[],[]⟩ none 0 none 0 none 0 none 0 none 0 (w2.alloc (.cells #[.slice none 0 0,.int .i64 (t:Int),.int .i64 (n:Int),.slice none 0 0,.slice none 0 0,.slice none 0 0,.slice none 0 0] 32))from by
  have hy:=Y1.out;have hs:w.heap.size<w1.heap.size:=Nat.lt_of_lt_of_le (by rw[World.size_alloc];exact Nat.lt_succ_self _) d9.size;have hs2:=Nat.lt_of_lt_of_le hs hf.size;have bb:=boxed w2 (.cells #[.slice none 0 0,.int .i64 (t:Int),.int .i64 (n:Int),.slice none 0 0,.slice none 0 0,.slice none 0 0,.slice none 0 0] 32)
  exact⟨hr.went bb,fZ.new,Et (mD (mD F0.out d9) hf) bb,(bb.block _ hs2).trans ((hf.block _ hs (by omega)).trans ((d9.block _ (by rw[World.size_alloc];exact Nat.lt_succ_self _) (by omega)).trans hy)),hpl,hs2⟩))
 have DONE:=af (fun q aR cR aW cW aX cX aG cG aH cH wk (h:TS w p b q s9 ⟨R,t,n,W,X,G,H⟩ aR cR aW cW aX cX aG cG aH cH wk)=>And.intro h.done h.res);unfold dH at START DONE N1;clear Y1 F0;go_enter Tryz.func56,Tryz.ntmps56
 go_wp2_with (first
  |(go_at_call 88;(with_reducible refine(N1.out).mono ?_);rintro e w1 ⟨rfl,hr,hf⟩;have F1:=af hf;have N2:=af (G7 hr P.out.e2);clear hr hf N1)
  |(go_at_call 88;(with_reducible refine(N2.out).mono ?_);rintro e w2 ⟨rfl,hr,hf⟩;have T2:=af (START.out w1 w2 F1.out hf hr);have N3:=af (G7 T2.out.rd P.out.e3);clear hr hf N2)
  |(go_at_call 88;(with_reducible refine(N3.out).mono ?_);rintro e w3 ⟨rfl,hr,hf⟩;have T3:=af (T2.out.read hr hf);have N4:=af (zRj hr P.out.cc P.out.e4);clear hr hf N3)
  |(go_at_call 89;(with_reducible refine(N4.out).mono ?_);rintro e w4 ⟨a4,c4,rfl,hl,hc,hr,hf⟩;have t4:=T3.out.read hr hf;obtain⟨x0,_,_,_,_,_,_,fz⟩:=t4.cells;have f0:=fz 0;have T4:=af (t4.put (t4.pk.set0 hl hc));have N5:=af (G7 T4.out.rd P.out.e5);clear hr hf hl hc t4 fz N4)
  |(go_at_call 88;(with_reducible refine(N5.out).mono ?_);rintro e w5 ⟨rfl,hr,hf⟩;have T5:=af (T4.out.read hr hf);have N6:=af (ints_at hr P.out.cz P.out.e6);clear hr hf N5)
  |(go_at_call 91;(with_reducible refine(N6.out).mono ?_);rintro e w6 ⟨a6,c6,rfl,hl,hc,hr,hf⟩;have t6:=T5.out.read hr hf;obtain⟨_,_,_,x3,_,_,_,fz⟩:=t6.cells;have f3:=fz 3;have T6:=af (t6.put (t6.pk.Ma hl hc));have x1:=T6.out.cells.2.1;have N7:=af (Yf T6.out.rd (n:=t+1) (by omega) E7.out);rw[hw2]at N7;clear hr hf hl hc t6 fz N6)
  |(go_at_call 92;(with_reducible refine(N7.out).mono ?_);rintro e w7 ⟨a7,c7,rfl,hl,hc,hr,hf⟩;have t7:=T6.out.read hr hf;obtain⟨_,_,_,_,x4,_,_,fz⟩:=t7.cells;have f4:=fz 4;have T7:=af (t7.put (t7.pk.Mb hl hc));have N8:=af (ints_at T7.out.rd P.out.cz P.out.e8);clear hr hf hl hc t7 fz N7)
  |(go_at_call 91;(with_reducible refine(N8.out).mono ?_);rintro e w8 ⟨a8,c8,rfl,hl,hc,hr,hf⟩;have t8:=T7.out.read hr hf;obtain⟨_,_,_,_,_,x5,_,fz⟩:=t8.cells;have f5:=fz 5;have T8:=af (t8.put (t8.pk.kY hl hc));have x2:=T8.out.cells.2.2.1;have N9:=af (Yf T8.out.rd (n:=n) (by omega) P.out.e9);clear hr hf hl hc t8 fz N8)
  |(go_at_call 92;(with_reducible refine(N9.out).mono ?_);rintro e w9 ⟨a9,c9,rfl,hl,hc,hr,hf⟩;have t9:=T8.out.read hr hf;obtain⟨_,_,_,_,_,_,x6,fz⟩:=t9.cells;have f6:=fz 6;have T9:=af (t9.put (t9.pk.jK hl hc));obtain⟨k0,k1,k2,k3,k4,k5,k6,_⟩:=T9.out.cells;have D9:=af (DONE.out _ _ _ _ _ _ _ _ _ _ _ _ T9.out);have Y:=D9.out.2;obtain⟨y0,y1,y2,y3,y4,y5,y6,gz⟩:=oU Y;clear hr hf hl hc t9 fz N9 Y)
  |fail)
 have YY:=D9.out.2;have EE:=af (yt YY (.slice a4 R.length c4) (.int .i64 (t:Int)) (.int .i64 (n:Int)) (.slice a6 W.length c6) (.slice a7 X.length c7) (.slice a8 G.length c8) (.slice a9 H.length c9));have DF:=af D9.out.1;clear YY D9 y0 y1 y2 y3 y4 y5 y6 gz k0 k1 k2 k3 k4 k5 k6 DONE;change bodyPost _ _ _ _ _ (cK (w9.setCell ⟨w2.heap.size,6,none⟩ (.slice a9 H.length c9)) w.heap.size (.slice a4 R.length c4) (.int .i64 (t:Int)) (.int .i64 (n:Int)) (.slice a6 W.length c6) (.slice a7 X.length c7) (.slice a8 G.length c8) (.slice a9 H.length c9));obtain⟨e0,e1,e2,e3,e4,e5,e6⟩:=EE.out;generalize cK (w9.setCell ⟨w2.heap.size,6,none⟩ (.slice a9 H.length c9)) w.heap.size (.slice a4 R.length c4) (.int .i64 (t:Int)) (.int .i64 (n:Int)) (.slice a6 W.length c6) (.slice a7 X.length c7) (.slice a8 G.length c8) (.slice a9 H.length c9)=wF at*;exact bodyPost_ret (v:=.agg #[.slice a4 R.length c4,.int .i64 (t:Int),.int .i64 (n:Int),.slice a6 W.length c6,.slice a7 X.length c7,.slice a8 G.length c8,.slice a9 H.length c9]) (by simp[results,Tryz.results56,go_sem,e0,e1,e2,e3,e4,e5,e6]) rfl DF.out
end Ts
namespace Pk
open Gr (cell_later boxed drawn aN pB)
open Go.Proofs.YtegeamggbglneaaGreatDoor.Sep (Fr)
theorem Wv(w):(Instr.makeMap 61 none).run Tryz.prog w=.ok (.map (some w.heap.size)) (w.alloc (.map #[] 0)):=by kernel_rfl
theorem Nk(w)(o):Below w.heap.size w (w.alloc o).drew:=Gr.step (boxed w o) (drawn _)
theorem WJ(T:Tb)(aR:Option Addr)(cR:Nat)(aA:Option Addr)(cA:Nat)(aG:Option Addr)(cG:Nat)(w:World)(D:nW T aR cR aA cA aG cG w)(S:lF T)(hm:jD T=true):
  Calls Tryz.prog 9 #[.agg (dI T aR cR aA cA aG cG)] w (Eh T w):=by
 have PT:=af (IA hm);have SS:=af S;have FF:=af D.fit;have hpo:sS T=(dh T,true):=if_pos hm
 have YES:=af (fun(w':World) aR cR aW cW aX cX aG cG aH cH (hb:Below w.heap.size w w') (hp:dX (dh T) aR cR aW cW aX cX aG cG aH cH w')=>(show Eh T w (.returned (.tuple #[.agg (bU (dh T) aR cR aW cW aX cX aG cG aH cH),.bool true])) w' from by
  rw[Eh,hpo]
  exact⟨aR,cR,aW,cW,aX,cX,aG,cG,aH,cH,rfl,hp,hb⟩))
 have RI:=af (fun w1 (b:Below w.heap.size w w1)=>zOi T aR cR aA cA aG cG w1 (D.went b) S);rw[show bo T=true from by unfold jD at hm;rw[Bool.and_eq_true]at hm;exact hm.2]at RI;have CO:=af (fun w1 (b:Below w.heap.size w w1)=>zLP T.rules aR cR w1 (D.went b).rules S.rl);have DD:=af (fun w1 (b:Below w.heap.size w w1)=>D.went b);have b1:=boxed w (.cells (dI T aR cR aA cA aG cG) 26);have b2:=boxed (w.alloc (.cells (dI T aR cR aA cA aG cG) 26)) (.cells dH 32);have B2:=af (Gr.step b1 b2);have Z2:=af ((sx (T:=T) (aR:=aR) (cR:=cR) (aA:=aA) (cA:=cA) (aG:=aG) (cG:=cG) w 26).went b2);have Y2:=af (gJ (w.alloc (.cells (dI T aR cR aA cA aG cG) 26)) (.cells dH 32));rw[World.size_alloc]at Y2;have hal:=PT.out.a1;have hrl:=PT.out.r1;clear b1 b2 D S hm hpo;unfold dI dH at*;have h1':¬(16383:Int)<(T.acts.length:Int):=by omega
 have h2':¬(16383:Int)<(T.rules.length:Int):=by omega
 obtain⟨z0,z1,z2,z3,z4⟩:=Z2.out;go_enter Tryz.func9,Tryz.ntmps9;go_wp2_with fail;generalize (w.alloc (.cells #[.slice aR T.rules.length cR,.int .i64 T.terms,.int .i64 T.ah,.slice aA T.acts.length cA,.slice aG T.goto.length cG] 26)).alloc (.cells #[.slice none 0 0,.int .i64 0,.int .i64 0,.slice none 0 0,.slice none 0 0,.slice none 0 0,.slice none 0 0] 32)=w2 at*;refine(RI.out _ B2.out).mono ?_;rintro e w3 ⟨rfl,hb3⟩;have B3:=af (Gr.step B2.out hb3);have Y3:=af ((hb3.block _ (Array.getElem?_eq_some_iff.1 Y2.out).1).trans Y2.out);have Z3:=af (Z2.out.went hb3);clear z0 z1 z2 z3 z4 hb3 Y2 Z2 B2 RI;obtain⟨z0,z1,z2,z3,z4⟩:=Z3.out;go_wp2_with fail
 have HQ:=af (show∀w',Below w3.heap.size w3 w'->w'.cell? ⟨w.heap.size,0,none⟩=some (.slice aR T.rules.length cR)/\w'.cell? ⟨w.heap.size,1,none⟩=some (.int .i64 T.terms)/\w'.cell? ⟨w.heap.size,2,none⟩=some (.int .i64 T.ah)/\Below w3.heap.size w3 w' from
  fun w' b=>⟨cell_later b z0,cell_later b z1,cell_later b z2,b⟩)
 have gh:=drawn w3;go_cut [4]from 31 (fun v wx=>∃(p b:Nat),v=.pointer (some ⟨p,0,none⟩)/\qj T w3 b p wx)
 case first=>
  go_region_held3 (fun w'=>w'.cell? ⟨w.heap.size,0,none⟩=some (.slice aR T.rules.length cR)/\w'.cell? ⟨w.heap.size,1,none⟩=some (.int .i64 T.terms)/\w'.cell? ⟨w.heap.size,2,none⟩=some (.int .i64 T.ah)/\Below w3.heap.size w3 w')
   (exact HQ.out _ (by with_reducible first|assumption|exact Nk _ _|exact wA (by assumption) (Nat.le_refl _) _ _ _ _ _ _ _|exact Gr.step (by assumption) (boxed _ _)))
   (first
    | (go_at_call 27;((with_reducible refine(CO.out _ (Gr.step B3.out (by with_reducible first|assumption|exact Nk _ _|exact Gr.step (by assumption) (boxed _ _)))).mono ?_));rintro e we ⟨b,rfl,Cy,om⟩;have kE:Below w3.heap.size w3 we:=Gr.step (by with_reducible first|assumption|exact Nk _ _|exact Gr.step (by assumption) (boxed _ _)) om;have RE:=af Cy;have BE:=af om;clear Cy om;first
     |((with_reducible have KB:=af (kept_alloc BE.out));have y0:=aF KB.out (k:=0) (by simp);have y1:=aF KB.out (k:=1) (by simp);have y2:=aF KB.out (k:=2) (by simp);have y3:=aF KB.out (k:=3) (by simp);have y4:=aF KB.out (k:=4) (by simp);have y5:=aF KB.out (k:=5) (by simp);have y6:=aF KB.out (k:=6) (by simp);have f0:=fu (k:=0) KB.out;have f1:=fu (k:=1) KB.out;have f2:=fu (k:=2) KB.out;have f3:=fu (k:=3) KB.out;have f4:=fu (k:=4) KB.out;have f5:=fu (k:=5) KB.out;have f6:=fu (k:=6) KB.out)
     |skip)
    |fail)
  ·have OB:=af (show qj T w3 b we.heap.size _ from qj.after kE (Nat.le_refl _) RE.out);go_wp2_with fail;go_meet
   case rel=>exact⟨_,_,rfl,OB.out⟩
  ·have OB:=af (show qj T w3 b w3.heap.size _ from qj.ahead kE (by change w3.heap.size<(w3.alloc _).heap.size;rw[World.size_alloc];exact Nat.lt_succ_self _) KB.out RE.out);go_wp2_with fail;go_meet
   case rel=>exact⟨_,_,rfl,OB.out⟩
 case rest=>
  obtain⟨p,b,rfl,zk⟩:=hcut;have OB:=af zk;clear zk CO HQ;generalize wc=w5 at*
  have TW:=af (fun(w':World) (f:Fr (fun x=>x=p) w5 w')=>(show Below w3.heap.size w3 w' from by
   have hlo:=OB.out.lo
   exact OB.out.below.trans (f.below (fun x hx=>by omega) OB.out.below.size)))
  have ZW:=af (fun(w':World) (f:Fr (fun x=>x=p) w5 w')=>Z3.out.went (TW.out w' f));have DW:=af (fun(w':World) (f:Fr (fun x=>x=p) w5 w')=>DD.out w' (Gr.step B3.out (TW.out w' f)));have YW:=af (fun(w':World) (f:Fr (fun x=>x=p) w5 w')=>((TW.out w' f).block _ (Array.getElem?_eq_some_iff.1 Y3.out).1).trans Y3.out);obtain⟨z0,z1,z2,z3,z4⟩:=ZW.out w5 (.refl _ _);have hs1:(w5.alloc (.map #[] 0)).heap.size=w5.heap.size+1:=World.size_alloc _ _;have I0:=af (zOV OB.out rfl rfl);have I6:=af PT.out.ga;have hmm:=Wv;have z3':((w5.alloc (.map #[] 0)).alloc (.cells #[.map (some w5.heap.size),.slice none 0 0,.slice none 0 0] 64)).cell? ⟨w.heap.size,3,none⟩=some (.slice aA T.acts.length cA):=cell_later (Gr.step (boxed _ _) (boxed _ _)) z3;clear DD Z3 z0 z1 z2 z4;have Gf:=OB.out.box;go_wp2_with fail;generalize (w5.alloc (.map #[] 0)).alloc (.cells #[.map (some w5.heap.size),.slice none 0 0,.slice none 0 0] 64)=w6 at*;clear z3 z3' Gf;go_loopw [36] (fun x wr=>∃(k:Nat) (v:Nat->Value) (vs:Nat->List Value) (vI:Nat->Value),x=.int .i64 (k:Int)/\k<=T.acts.length/\gA w5 p (w5.heap.size+1) w5.heap.size (.slice (some ⟨b,0,none⟩) T.rules.length T.rules.length) (.int .i64 T.terms) (.int .i64 T.ah) (LX T k k) v vs vI (IX T k k) wr) (fun x _=>T.acts.length-(intOf x).toNat)
  case atStart=>exact⟨0,_,_,_,rfl,Nat.zero_le _,I0.out⟩
  case round=>
   obtain⟨k,v,vs,vI,rfl,hk,hI⟩:=hrel;have I:=af hI;clear hI I0;have JY:(df T).length=T.acts.length:=Uh T;have JZ:(dC T).length=T.acts.length:=by rw[Ui];exact I6.out
   by_cases hlt:k<T.acts.length
   ·have hkl:(k:Int)<(T.acts.length:Int):=by omega
    have hkg:(k:Int)<(T.goto.length:Int):=by rw[I6.out];omega
    have tZ:k<T.goto.length:=by rw[I6.out];exact hlt
    have HA:=af (show k<(df T).length by rw[JY];exact hlt);have HG:=af (show k<(dC T).length by rw[JZ];exact hlt);have eA:(df T)[k]'HA.out=T.acts[k].map ia:=by simp[df]
    have eG:(dC T)[k]'HG.out=T.goto[k].map lj:=by simp[dC]
    have Pz:=af (fun ka kg j=>zUk T ka kg j (by rw[JY];omega) (by rw[JZ];omega));obtain⟨Sg,iU,hy0,hy1,hy2⟩:=info_parts pB;have xw:=I.out.fr;obtain⟨z0,z1,z2,z3,z4⟩:=ZW.out wr xw;have dw:=DW.out wr xw;obtain⟨ba,oa,ra,rca,rfl,p0,xM,_,_⟩:=dw.acts k hlt
    have EA:=af (zH6 T.acts[k] ra rca wr.drew (xM.went (drawn wr)) (SS.out.ar _ (List.getElem_mem hlt)) (fun x hx=>by
     have:=He ((PT.out.acts _ (List.getElem_mem hlt)).2 x hx) PT.out.a1 PT.out.r1
     exact⟨this.2.2.1,this.2.2.2.1,this.2.2.2.2.1,this.2.2.2.2.2⟩))
    have CA:=af (Zd PT.out SS.out hlt);have Jg:=af (Jj (T:=T) (ka:=k) (kg:=k) HA.out);have I9:=af (Jb (T:=T) (ka:=k) (kg:=k) HA.out);rw[eA]at Jg I9;have vw:(T.acts[k].map fun x=>Value.int .u16 (ia x))=(T.acts[k].map ia).map fun c=>Value.int .u16 c:=by rw[List.map_map];rfl
    have vt:(T.acts[k].map ia).length=T.acts[k].length:=List.length_map _;rw[vw]at EA;generalize T.acts[k]=jd at*;generalize jd.map ia=cA at*;obtain⟨uf,ug⟩:=Ot T (ka:=k) (kg:=k) (by omega) (by omega);obtain⟨aW,cW,i0⟩:=Rw.cu (I.out.idx 0 (by decide));rw[uf]at i0;have c3:=I.out.cell (k:=0) (by decide);rw[i0]at c3
    have S1:=af (fun(wa:World) (b1:Nat) (hlo:wr.drew.heap.size<=b1) (hh:wa.heap[b1]?=some (.cells (cA.map fun c=>Value.int .u16 c).toArray 48 (0,0))) (hb:Below wr.drew.heap.size wr.drew wa)=>
     (show gA w5 p (w5.heap.size+1) w5.heap.size (.slice (some ⟨b,0,none⟩) T.rules.length T.rules.length) (.int .i64 T.terms) (.int .i64 T.ah) (LX T k k) v vs vI (IX T k k) wa/\Dat w5.heap.size cA (.slice (some ⟨b1,0,none⟩) jd.length jd.length) wa/\wa.cell? ⟨p,3,none⟩=some (.slice aW k cW)/\
      Calls Tryz.prog 28 #[.pointer (some ⟨w5.heap.size+1,0,none⟩),.int .i64 0,.slice (some ⟨b1,0,none⟩) jd.length jd.length] wa (Ie w5.heap.size (w5.heap.size+1) w5.heap.size (LX T k k) v vs 0 cA (.slice (some ⟨b1,0,none⟩) jd.length jd.length) wa)from by
      have I2:=I.out.went (Gr.step (drawn wr) hb);have uV:=I2.cell (k:=0) (by decide);rw[i0]at uV;have hp:=MP wa I2.st 0 (by decide) cA (some ⟨b1,0,none⟩) jd.length (GH hh) CA.out (fun j _=>Pz.out k k j);rw[vt]at hp
      exact⟨I2,⟨b1,by rw[vt],hh,Nat.le_trans I.out.fr.size hlo⟩,uV,hp⟩))
    have S2:=af (fun(wb:World) (v':Nat->Value) (vs':Nat->List Value) (h:gA w5 p (w5.heap.size+1) w5.heap.size (.slice (some ⟨b,0,none⟩) T.rules.length T.rules.length) (.int .i64 T.terms) (.int .i64 T.ah) (upd (LX T k k) 0 (bZ (LX T k k 0) cA)) v' vs' vI (IX T k k) wb)=>
     (show wb.cell? ⟨p,3,none⟩=some (.slice aW k cW)/\(wb.alloc (.cells #[.int .i64 (eQ (LX T k k 0) cA:Int)] 3)).cell? ⟨p,3,none⟩=some (.slice aW k cW)/\(wb.alloc (.cells #[.int .i64 (eQ (LX T k k 0) cA:Int)] 3)).ownsRow w5.heap.size 3 1 (.slice aW k cW) k (aN (IX T k k 0))/\
      (wb.alloc (.cells #[.int .i64 (eQ (LX T k k 0) cA:Int)] 3)).ownsRow w5.heap.size 3 1 (.slice (some ⟨wb.heap.size,0,none⟩) 1 1) 1 [.int .i64 (eQ (LX T k k 0) cA:Int)]/\w5.heap.size<=(wb.alloc (.cells #[.int .i64 (eQ (LX T k k 0) cA:Int)] 3)).heap.size from by
      have hb:=boxed wb (.cells #[.int .i64 (eQ (LX T k k 0) cA:Int)] 3);have uV:=h.cell (k:=0) (by decide);rw[i0]at uV;have hr:=(h.went hb).idx 0 (by decide);rw[i0,uf]at hr
      exact⟨uV,cell_later hb uV,hr,yM _ wb _ _ h.fr.size _ rfl,Nat.le_trans h.fr.size hb.size⟩))
    have S3:=af (fun(wb:World) (v':Nat->Value) (vs':Nat->List Value) (h:gA w5 p (w5.heap.size+1) w5.heap.size (.slice (some ⟨b,0,none⟩) T.rules.length T.rules.length) (.int .i64 T.terms) (.int .i64 T.ah) (upd (LX T k k) 0 (bZ (LX T k k 0) cA)) v' vs' vI (IX T k k) wb)
      (v7:Value) (w7:World) (hown:w7.ownsRow w5.heap.size 3 1 v7 (k+1) (aN (IX T k k 0)++[.int .i64 (eQ (LX T k k 0) cA:Int)])) (hg:(wb.alloc (.cells #[.int .i64 (eQ (LX T k k 0) cA:Int)] 3)).grownBy w7 (Value.slice aW k cW).ownBlock) (hl:v7.ownBlock=(Value.slice aW k cW).ownBlock\/v7.ownBlock=some (wb.alloc (.cells #[.int .i64 (eQ (LX T k k 0) cA:Int)] 3)).heap.size)=>
     (show w7.cell? ⟨p,3,none⟩=some (.slice aW k cW)/\w7.frozen? ⟨p,3,none⟩=false/\∃wo,gA w5 p (w5.heap.size+1) w5.heap.size (.slice (some ⟨b,0,none⟩) T.rules.length T.rules.length) (.int .i64 T.terms) (.int .i64 T.ah) (LX T (k+1) k) v' vs' wo (IX T (k+1) k) (w7.setCell ⟨p,3,none⟩ v7)from by
      rw[←i0]at hg hl;have hb:=boxed wb (.cells #[.int .i64 (eQ (LX T k k 0) cA:Int)] 3);have hm:=h.mid (by decide) hb hg;rw[←Jg.out,←I9.out];have uV:=aF hm (k:=3) (by simp[vO]);refine⟨uV.trans ?_,fu hm,_,h.vT (k:=0) (by decide) hb (by rw[uf];exact hown) hg hl⟩;rw[←i0]
      rfl))
    clear xw z0 z1 z2 z4 dw xM vw uf ug;go_wp2_with fail;go_cut []from 37 to 63 (fun wx=>∃(v':Nat->Value) (vs':Nat->List Value) (wo:Nat->Value),gA w5 p (w5.heap.size+1) w5.heap.size (.slice (some ⟨b,0,none⟩) T.rules.length T.rules.length) (.int .i64 T.terms) (.int .i64 T.ah) (LX T (k+1) k) v' vs' wo (IX T (k+1) k) wx)
    case first=>
     go_region_law (first
      |(go_simp;go_at_call 29;(with_reducible refine(EA.out).mono ?_);rintro e wa ⟨b1,rfl,qD,BM,hb1⟩;obtain⟨Av,Ai,c32,Az⟩:=S1.out wa b1 qD BM hb1;have I2:=af Av;have D2:=af Ai;have PL:=af Az;clear Av Ai Az qD BM hb1)
      |(go_simp;go_at_call 28;(with_reducible refine(PL.out).mono ?_);rintro e wb ⟨rfl,v',hst,xG,_⟩;have I3:=af (I2.out.qT (by decide) D2.out hst xG);obtain⟨c33,c34,Dr,Dk,s3⟩:=S2.out wb _ _ I3.out;have R3:=af Dr;have O3:=af Dk;clear hst xG Dr Dk)
      | (refine Rw.gZ _ (by rfl) _ _ 29 (by rfl) w5.heap.size 3 Sg (.int .i64 0) 1 8 Tryz.underlying29 iU hy0 hy1 hy2 rfl (by decide) (.slice aW k cW) k _ (by rfl) R3.out w5.heap.size (.slice (some ⟨wb.heap.size,0,none⟩) 1 1) 1 [.int .i64 (eQ (LX T k k 0) cA:Int)] (by rfl) O3.out (by simp[Value.oneCell']) (by unfold maxLen;omega) (by omega) s3 ?_;intro v7 w7 aM cV bQ;obtain⟨a7,c7,rfl⟩:=Rw.cu aM;obtain⟨q9,f9,x7⟩:=S3.out wb _ _ I3.out _ w7 aM cV bQ;have R7:=af x7;clear aM cV bQ x7))
     all_goals
      go_wp2_with fail;go_meet
      case rel=>
       obtain⟨wo,x7⟩:=R7.out;exact⟨_,_,wo,x7⟩
    case rest=>
     clear EA CA Jg I9 S1 S2 S3 c3 i0 p0 I;obtain⟨v,vs,vI,hI⟩:=hcut;have I:=af hI;clear hI;generalize wc=wr at*;have xw:=I.out.fr;obtain⟨z0,z1,z2,z3,z4⟩:=ZW.out wr xw;have dw:=DW.out wr xw;obtain⟨ba2,oa2,ra2,LZ,rfl,p0,xM,_,_⟩:=dw.goto k tZ
     have EG:=af (zGw T.goto[k] ra2 LZ wr.drew (xM.went (drawn wr)) (SS.out.gr _ (List.getElem_mem tZ)) (fun x hx=>by
      have:=Nw ((PT.out.goto _ (List.getElem_mem tZ)).2 x hx) PT.out.a1
      omega))
     have CG:=af (Ze PT.out SS.out tZ);have Ji:=af (Jk (T:=T) (ka:=k+1) (kg:=k) HG.out);have Ja:=af (Jc (T:=T) (ka:=k+1) (kg:=k) HG.out);rw[eG]at Ji Ja;have vz:(T.goto[k].map fun x=>Value.int .u16 (lj x))=(T.goto[k].map lj).map fun c=>Value.int .u16 c:=by rw[List.map_map];rfl
     have vv:(T.goto[k].map lj).length=T.goto[k].length:=List.length_map _;rw[vz]at EG;generalize T.goto[k]=mA at*;generalize mA.map lj=fQ at*;obtain⟨uf,ug⟩:=Ot T (ka:=k+1) (kg:=k) (by omega) (by omega);obtain⟨aW,cW,i1⟩:=Rw.cu (I.out.idx 1 (by decide));rw[ug]at i1;have c5:=I.out.cell (k:=1) (by decide);rw[i1]at c5
     have S1:=af (fun(wa:World) (b1:Nat) (hlo:wr.drew.heap.size<=b1) (hh:wa.heap[b1]?=some (.cells (fQ.map fun c=>Value.int .u16 c).toArray 48 (0,0))) (hb:Below wr.drew.heap.size wr.drew wa)=>
      (show gA w5 p (w5.heap.size+1) w5.heap.size (.slice (some ⟨b,0,none⟩) T.rules.length T.rules.length) (.int .i64 T.terms) (.int .i64 T.ah) (LX T (k+1) k) v vs vI (IX T (k+1) k) wa/\Dat w5.heap.size fQ (.slice (some ⟨b1,0,none⟩) mA.length mA.length) wa/\wa.cell? ⟨p,5,none⟩=some (.slice aW k cW)/\
       Calls Tryz.prog 28 #[.pointer (some ⟨w5.heap.size+1,0,none⟩),.int .i64 1,.slice (some ⟨b1,0,none⟩) mA.length mA.length] wa (Ie w5.heap.size (w5.heap.size+1) w5.heap.size (LX T (k+1) k) v vs 1 fQ (.slice (some ⟨b1,0,none⟩) mA.length mA.length) wa)from by
       have I2:=I.out.went (Gr.step (drawn wr) hb);have uY:=I2.cell (k:=1) (by decide);rw[i1]at uY;have hp:=MP wa I2.st 1 (by decide) fQ (some ⟨b1,0,none⟩) mA.length (GH hh) CG.out (fun j _=>Pz.out (k+1) k j);rw[vv]at hp
       exact⟨I2,⟨b1,by rw[vv],hh,Nat.le_trans I.out.fr.size hlo⟩,uY,hp⟩))
     have S2:=af (fun(wb:World) (v':Nat->Value) (vs':Nat->List Value) (h:gA w5 p (w5.heap.size+1) w5.heap.size (.slice (some ⟨b,0,none⟩) T.rules.length T.rules.length) (.int .i64 T.terms) (.int .i64 T.ah) (upd (LX T (k+1) k) 1 (bZ (LX T (k+1) k 1) fQ)) v' vs' vI (IX T (k+1) k) wb)=>
      (show wb.cell? ⟨p,5,none⟩=some (.slice aW k cW)/\(wb.alloc (.cells #[.int .i64 (eQ (LX T (k+1) k 1) fQ:Int)] 3)).cell? ⟨p,5,none⟩=some (.slice aW k cW)/\(wb.alloc (.cells #[.int .i64 (eQ (LX T (k+1) k 1) fQ:Int)] 3)).ownsRow w5.heap.size 3 1 (.slice aW k cW) k (aN (IX T (k+1) k 1))/\
       (wb.alloc (.cells #[.int .i64 (eQ (LX T (k+1) k 1) fQ:Int)] 3)).ownsRow w5.heap.size 3 1 (.slice (some ⟨wb.heap.size,0,none⟩) 1 1) 1 [.int .i64 (eQ (LX T (k+1) k 1) fQ:Int)]/\w5.heap.size<=(wb.alloc (.cells #[.int .i64 (eQ (LX T (k+1) k 1) fQ:Int)] 3)).heap.size from by
       have hb:=boxed wb (.cells #[.int .i64 (eQ (LX T (k+1) k 1) fQ:Int)] 3);have uY:=h.cell (k:=1) (by decide);rw[i1]at uY;have hr:=(h.went hb).idx 1 (by decide);rw[i1,ug]at hr
       exact⟨uY,cell_later hb uY,hr,yM _ wb _ _ h.fr.size _ rfl,Nat.le_trans h.fr.size hb.size⟩))
     have S3:=af (fun(wb:World) (v':Nat->Value) (vs':Nat->List Value) (h:gA w5 p (w5.heap.size+1) w5.heap.size (.slice (some ⟨b,0,none⟩) T.rules.length T.rules.length) (.int .i64 T.terms) (.int .i64 T.ah) (upd (LX T (k+1) k) 1 (bZ (LX T (k+1) k 1) fQ)) v' vs' vI (IX T (k+1) k) wb)
       (v7:Value) (w7:World) (hown:w7.ownsRow w5.heap.size 3 1 v7 (k+1) (aN (IX T (k+1) k 1)++[.int .i64 (eQ (LX T (k+1) k 1) fQ:Int)])) (hg:(wb.alloc (.cells #[.int .i64 (eQ (LX T (k+1) k 1) fQ:Int)] 3)).grownBy w7 (Value.slice aW k cW).ownBlock) (hl:v7.ownBlock=(Value.slice aW k cW).ownBlock\/v7.ownBlock=some (wb.alloc (.cells #[.int .i64 (eQ (LX T (k+1) k 1) fQ:Int)] 3)).heap.size)=>
      (show w7.cell? ⟨p,5,none⟩=some (.slice aW k cW)/\w7.frozen? ⟨p,5,none⟩=false/\∃wo,gA w5 p (w5.heap.size+1) w5.heap.size (.slice (some ⟨b,0,none⟩) T.rules.length T.rules.length) (.int .i64 T.terms) (.int .i64 T.ah) (LX T (k+1) (k+1)) v' vs' wo (IX T (k+1) (k+1)) (w7.setCell ⟨p,5,none⟩ v7)from by
       rw[←i1]at hg hl;have hb:=boxed wb (.cells #[.int .i64 (eQ (LX T (k+1) k 1) fQ:Int)] 3);have hm:=h.mid (by decide) hb hg;rw[←Ji.out,←Ja.out];have uY:=aF hm (k:=5) (by simp[vO]);refine⟨uY.trans ?_,fu hm,_,h.vT (k:=1) (by decide) hb (by rw[ug];exact hown) hg hl⟩;rw[←i1]
       rfl))
     clear xw z0 z1 z2 z3 dw xM vz uf ug;go_wp2_with fail
     go_region_law (first
      |(go_simp;go_at_call 31;(with_reducible refine(EG.out).mono ?_);rintro e wa ⟨b1,rfl,qD,BM,hb1⟩;obtain⟨Av,Ai,c52,Az⟩:=S1.out wa b1 qD BM hb1;have I2:=af Av;have D2:=af Ai;have PL:=af Az;clear Av Ai Az qD BM hb1)
      |(go_simp;go_at_call 28;(with_reducible refine(PL.out).mono ?_);rintro e wb ⟨rfl,v',hst,xG,_⟩;have I3:=af (I2.out.qT (by decide) D2.out hst xG);obtain⟨c53,c54,Dr,Dk,s3⟩:=S2.out wb _ _ I3.out;have R3:=af Dr;have O3:=af Dk;clear hst xG Dr Dk)
      | (refine Rw.gZ _ (by rfl) _ _ 29 (by rfl) w5.heap.size 3 Sg (.int .i64 0) 1 8 Tryz.underlying29 iU hy0 hy1 hy2 rfl (by decide) (.slice aW k cW) k _ (by rfl) R3.out w5.heap.size (.slice (some ⟨wb.heap.size,0,none⟩) 1 1) 1 [.int .i64 (eQ (LX T (k+1) k 1) fQ:Int)] (by rfl) O3.out (by simp[Value.oneCell']) (by unfold maxLen;omega) (by omega) s3 ?_;intro v7 w7 aM cV bQ;obtain⟨a7,c7,rfl⟩:=Rw.cu aM;obtain⟨q9,f9,x7⟩:=S3.out wb _ _ I3.out _ w7 aM cV bQ;have R7:=af x7;clear aM cV bQ x7))
     all_goals
      obtain⟨wo,x7⟩:=R7.out;have IE:=af x7;clear x7 R7 S1 S2 S3 EG CG Ji Ja I;go_wp2_with fail;go_roundw
      case rel=>exact⟨k+1,_,_,_,by go_num,by omega,IE.out⟩
      case measure=>first|(simp[intOf];omega)|omega
   ·obtain rfl:k=T.acts.length:=by omega
    obtain⟨uf,ug⟩:=Ot T (ka:=T.acts.length) (kg:=T.acts.length) (by omega) (by omega);obtain⟨aX,cX,e0⟩:=Rw.cu (I.out.st.row 0 (by decide));obtain⟨aH,cH,e1⟩:=Rw.cu (I.out.st.row 1 (by decide));obtain⟨aW,cW,i0⟩:=Rw.cu (I.out.idx 0 (by decide));obtain⟨oQ,fQ,i1⟩:=Rw.cu (I.out.idx 1 (by decide));rw[uf]at i0;rw[ug]at i1;have bW:=I.out.box;unfold vO at bW;rw[i0,i1]at bW;have st:=I.out.st.box;rw[e0,e1]at st;have s1:=aF st (k:=1) (by simp);have s2:=aF st (k:=2) (by simp);have t0:=aF bW (k:=0) (by simp);have t1:=aF bW (k:=1) (by simp);have t2:=aF bW (k:=2) (by simp);have t3:=aF bW (k:=3) (by simp);have t4:=aF bW (k:=4) (by simp);have t5:=aF bW (k:=5) (by simp);have t6:=aF bW (k:=6) (by simp);have g4:=fu (k:=4) bW;have g6:=fu (k:=6) bW;simp only[List.getElem_toArray,List.getElem_cons_zero,List.getElem_cons_succ]at s1 s2 t0 t1 t2 t3 t4 t5 t6;clear JY JZ uf ug;go_wp2_with fail;go_region
    have hE:(((wr.setCell ⟨p,4,none⟩ (.slice aX (LX T T.acts.length T.acts.length 0).length cX)).setCell ⟨p,6,none⟩ (.slice aH (LX T T.acts.length T.acts.length 1).length cH)).drew).heap[p]?=some (.cells #[.slice (some ⟨b,0,none⟩) T.rules.length T.rules.length,.int .i64 T.terms,.int .i64 T.ah,.slice aW T.acts.length cW,.slice aX (LX T T.acts.length T.acts.length 0).length cX,.slice oQ T.acts.length fQ,.slice aH (LX T T.acts.length T.acts.length 1).length cH] 32 (0,0)):=by
     show((wr.setCell ⟨p,4,none⟩ (.slice aX (LX T T.acts.length T.acts.length 0).length cX)).setCell ⟨p,6,none⟩ (.slice aH (LX T T.acts.length T.acts.length 1).length cH)).heap[p]?= _;rw[ft (k:=6) (ft (k:=4) bW _)]
     rfl
    have hf:Fr (fun x=>x=p) wr ((wr.setCell ⟨p,4,none⟩ (.slice aX (LX T T.acts.length T.acts.length 0).length cX)).setCell ⟨p,6,none⟩ (.slice aH (LX T T.acts.length T.acts.length 1).length cH)).drew:=
     (((Fr.refl (fun x=>x=p) wr).setCell ⟨p,4,none⟩ rfl _).setCell ⟨p,6,none⟩ rfl _).drew
    have HF:=af hf;have DN:=af (fun(w':World) (hw:Fr (fun x=>x=p\/x<w3.heap.size) wr w')=>zOR PT.out SS.out FF.out OB.out I.out e0 e1 i0 i1 hw);clear e0 e1 i0 i1 bW st s1 s2 t0 t1 t2 t3 t4 t5 t6 g4 g6 hf;generalize LX T T.acts.length T.acts.length=LL at*;generalize ((wr.setCell ⟨p,4,none⟩ (.slice aX (LL 0).length cX)).setCell ⟨p,6,none⟩ (.slice aH (LL 1).length cH)).drew=wE at*;have FE:=af (I.out.fr.trans HF.out fun x hx=> .inl hx);have Y:=YW.out wE FE.out;have t0:=aF hE (k:=0) (by simp);have t1:=aF hE (k:=1) (by simp);have t2:=aF hE (k:=2) (by simp);have t3:=aF hE (k:=3) (by simp);have t4:=aF hE (k:=4) (by simp);have t5:=aF hE (k:=5) (by simp);have t6:=aF hE (k:=6) (by simp);have y0:=aF Y (k:=0) (by simp);have y1:=aF Y (k:=1) (by simp);have y2:=aF Y (k:=2) (by simp);have y3:=aF Y (k:=3) (by simp);have y4:=aF Y (k:=4) (by simp);have y5:=aF Y (k:=5) (by simp);have y6:=aF Y (k:=6) (by simp);have f0:=fu (k:=0) Y;have f1:=fu (k:=1) Y;have f2:=fu (k:=2) Y;have f3:=fu (k:=3) Y;have f4:=fu (k:=4) Y;have f5:=fu (k:=5) Y;have f6:=fu (k:=6) Y;simp only[List.getElem_toArray,List.getElem_cons_zero,List.getElem_cons_succ]at t0 t1 t2 t3 t4 t5 t6 y0 y1 y2 y3 y4 y5 y6;have EE:=af (yt Y (.slice (some ⟨b,0,none⟩) T.rules.length T.rules.length) (.int .i64 T.terms) (.int .i64 T.ah) (.slice aW T.acts.length cW) (.slice aX (LL 0).length cX) (.slice oQ T.acts.length fQ) (.slice aH (LL 1).length cH));have BE:=af (wA (Gr.step B3.out (TW.out wE FE.out)) (Nat.le_succ w.heap.size) (.slice (some ⟨b,0,none⟩) T.rules.length T.rules.length) (.int .i64 T.terms) (.int .i64 T.ah) (.slice aW T.acts.length cW) (.slice aX (LL 0).length cX) (.slice oQ T.acts.length fQ) (.slice aH (LL 1).length cH));have hs3:w.heap.size+1<w3.heap.size:=(Array.getElem?_eq_some_iff.1 Y3.out).1;have DE:=af (DN.out _ ((HF.out.mono fun x hx=> .inl hx).trans ((EC wE (w.heap.size+1) (.slice (some ⟨b,0,none⟩) T.rules.length T.rules.length) (.int .i64 T.terms) (.int .i64 T.ah) (.slice aW T.acts.length cW) (.slice aX (LL 0).length cX) (.slice oQ T.acts.length fQ) (.slice aH (LL 1).length cH)).mono (T:=fun x=>x=p\/x<w3.heap.size) fun x hx=> .inr (by omega)) fun x hx=> .inl hx));clear Y hE;go_wp2_with fail;change bodyPost _ _ _ _ _ (cK wE (w.heap.size+1) (.slice (some ⟨b,0,none⟩) T.rules.length T.rules.length) (.int .i64 T.terms) (.int .i64 T.ah) (.slice aW T.acts.length cW) (.slice aX (LL 0).length cX) (.slice oQ T.acts.length fQ) (.slice aH (LL 1).length cH));obtain⟨e0,e1,e2,e3,e4,e5,e6⟩:=EE.out;have BF:=af (show Below w.heap.size w (cK wE (w.heap.size+1) (.slice (some ⟨b,0,none⟩) T.rules.length T.rules.length) (.int .i64 T.terms) (.int .i64 T.ah) (.slice aW T.acts.length cW) (.slice aX (LL 0).length cX) (.slice oQ T.acts.length fQ) (.slice aH (LL 1).length cH))from BE.out);have DF:=af (show _/\_/\_/\_/\dX (dh T) (some ⟨b,0,none⟩) T.rules.length aW cW aX cX oQ fQ aH cH (cK wE (w.heap.size+1) (.slice (some ⟨b,0,none⟩) T.rules.length T.rules.length) (.int .i64 T.terms) (.int .i64 T.ah) (.slice aW T.acts.length cW) (.slice aX (LL 0).length cX) (.slice oQ T.acts.length fQ) (.slice aH (LL 1).length cH))from DE.out);generalize cK wE (w.heap.size+1) (.slice (some ⟨b,0,none⟩) T.rules.length T.rules.length) (.int .i64 T.terms) (.int .i64 T.ah) (.slice aW T.acts.length cW) (.slice aX (LL 0).length cX) (.slice oQ T.acts.length fQ) (.slice aH (LL 1).length cH)=wF at*;obtain⟨d0,d1,d2,d3,dP⟩:=DF.out;have YF:=YES.out wF _ _ _ _ _ _ _ _ _ _ BF.out dP;unfold bU at YF;rw[←d0,←d1,←d2,←d3]at YF;have YF:=af YF;clear d0 d1 d2 d3 dP;refine bodyPost_ret (v:=.tuple #[.agg #[.slice (some ⟨b,0,none⟩) T.rules.length T.rules.length,.int .i64 T.terms,.int .i64 T.ah,.slice aW T.acts.length cW,.slice aX (LL 0).length cX,.slice oQ T.acts.length fQ,.slice aH (LL 1).length cH],.bool true]) (by simp[results,Tryz.results9,go_sem,e0,e1,e2,e3,e4,e5,e6]) rfl YF.out
