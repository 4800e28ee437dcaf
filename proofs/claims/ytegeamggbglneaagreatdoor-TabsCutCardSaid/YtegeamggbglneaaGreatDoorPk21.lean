/- Proof. -/
import Derived.Test.YtegeamggbglneaaGreatDoorPk20
import Derived.ArgAppend
set_option maxHeartbeats 4000000
set_option maxRecDepth 100000
set_option linter.unusedVariables false
namespace Go.Proofs.YtegeamggbglneaaGreatDoor
open Go.RowKit Go.Maps
namespace Ts
open Pk
open Gr (boxed pB)
open Go.Proofs.YtegeamggbglneaaGreatDoor.Sep (Fr)
def qf{α:Type}(A:Option Addr->List α->World->Prop)(T:TypeId)(p b:Nat)(q:List α×St)(w:World)(e:Ending)(w':World):Prop:=
 ∃a c,e=.returned (.slice a q.1.length c)/\A a q.1 w'/\q.1.length<=c/\aT T p b q.2 w'/\Fr (fun x=>x=p) w w'
abbrev wX:=qf dv
abbrev tq:=qf gp
abbrev tu:=qf lB
abbrev Ao:=qf fA
def OO(T:TypeId)(p b:Nat)(q:(Int×List Int)×St)(w:World)(e:Ending)(w':World):Prop:=
 ∃a c,e=.returned (.agg #[.int .i64 q.1.1,.slice a q.1.2.length c])/\dv a q.1.2 w'/\q.1.2.length<=c/\aT T p b q.2 w'/\Fr (fun x=>x=p) w w'
theorem MG:(Tryz.prog.info? 55).map (fun i=>(i.zero,i.size,i.bytes))=some (some (.agg #[.int .i64 0,.slice none 0 0]),2,32):=by kernel_rfl
theorem WM{p b n:Nat}{s:St}{w:World}(h:aT 93 p b s w)(hn:n<=70000):Calls Tryz.prog 91 #[.pointer (some ⟨p,0,none⟩),.int .i64 (n:Int),.func (.func 88) #[.pointer (some ⟨p,0,none⟩)] #[]] w (wX 93 p b (many num n s) w):=by
 obtain⟨i0,hi0,hz0,hz1,hz2⟩:=info_parts pB;have hpl:=h.pl;have H:=af h;clear h;go_enter Tryz.func91,Tryz.ntmps91;go_wp2;go_loopw [7,9] (fun v i wr=>∃k:Nat,i=.int .i64 (k:Int)/\k<=n/\eK 3 .i64 w.heap.size v (many num k s).1 wr/\aT 93 p b (many num k s).2 wr/\Fr (fun x=>x=p) w wr) (fun _ i _=>n-(intOf i).toNat)
 case atStart=>exact⟨0,rfl,Nat.zero_le _,.nil _ _ _ _,H.out,.refl _ _⟩
 case round=>
  obtain⟨k,rfl,hk,hO,hR,hF⟩:=hrel;have hlen:=rH (f:=num) k s;have STEP:=af (fun h=>GZ (one:=num) (k:=k) (s:=s) h);have STOP:=af (fun h=>Hl (one:=num) (n:=n) (k:=k) (s:=s) hk h);have LAST:=af (fun h:k=n=>(show many num n s=many num k s by rw[h]));generalize many num k s=q at*;obtain⟨L,l1,f1⟩:=q;dsimp only at hO hR hlen;obtain⟨a,c,rfl⟩:=Rw.cu hO.own;have O:=af hO;have R:=af hR;have F:=af hF;obtain⟨ar,cr,hb,_⟩:=hR.box;have x1:=aF hb (k:=1) (by simp);simp only[List.getElem_toArray,List.getElem_cons_zero,List.getElem_cons_succ]at x1;clear hO hR hF hb
  by_cases hlt:k<n
  ·have hkn:(k:Int)<(n:Int):=by omega
   cases f1 with
   |true=>
    have E:=af (STOP.out rfl);clear STEP STOP LAST;go_wp2;go_ret;exact⟨a,c,by rw[E.out];rfl,by rw[E.out];exact O.out.ints.1,by rw[E.out];exact O.out.ints.2,by rw[E.out];exact R.out,F.out⟩
   |false=>
    have ES:=af (STEP.out rfl);have ge:=EW O.out.own;dsimp only at ES;clear STEP STOP LAST;have NA:=af (wB R.out);unfold lU at NA;generalize num (l1,false)=q at*;obtain⟨z,s2⟩:=q;dsimp only at NA ES
    go_wp2_with (first
     |(go_at_call 88;refine(NA.out).mono ?_;rintro e w1 ⟨rfl,hr1,d9⟩;have R2:=af (hr1.went (boxed w1 (.cells #[.int .i64 z] 3)));have O2:=af ((O.out.fr d9 hpl).went (boxed w1 (.cells #[.int .i64 z] 3)));have F2:=af (Et (mD F.out d9) (boxed w1 (.cells #[.int .i64 z] 3)));have xX:=af (yM w.heap.size w1 (.int .i64 z) 3 (mD F.out d9).size _ rfl);have l2:=F2.out.size;clear hr1 d9)
     | (at_builtin;refine Rw.lL _ rfl _ _ 29 rfl w.heap.size 3 i0 (.int .i64 0) 1 8 Tryz.underlying29 hi0 hz0 hz1 hz2 rfl (by decide) (.slice a L.length c) L.length _ rfl O2.out.own w.heap.size (.slice (some ⟨w1.heap.size,0,none⟩) 1 1) 1 [.int .i64 z] rfl xX.out (by simp[Value.oneCell']) (by unfold maxLen;omega) (by omega) l2 ?_;intro v7 w7 aM cV _;have O7:=af (eK.snoc rfl aM);have R7:=af (R2.out.grown cV hpl ge);have F7:=af (F2.out.grown cV fun x e=> .inr (ge x e));clear aM cV))
    go_roundw
    case rel=>exact⟨k+1,by go_num,by omega,by rw[ES.out];exact O7.out,by rw[ES.out];exact R7.out,F7.out⟩
    case measure=>first|(simp[intOf];omega)|omega
  ·have E:=af (LAST.out (by omega));have hkn:¬(k:Int)<(n:Int):=by omega
   clear STEP STOP LAST;go_wp2;go_ret;exact⟨a,c,by rw[E.out];rfl,by rw[E.out];exact O.out.ints.1,by rw[E.out];exact O.out.ints.2,by rw[E.out];exact R.out,F.out⟩
theorem zOd{p b n:Nat}{s:St}{w:World}(h:aT 93 p b s w)(hn:n<=70000):Calls Tryz.prog 106 #[.pointer (some ⟨p,0,none⟩),.int .i64 (n:Int),.func (.func 103) #[.pointer (some ⟨p,0,none⟩)] #[]] w (tq 93 p b (many num n s) w):=by
 obtain⟨i0,hi0,hz0,hz1,hz2⟩:=info_parts Wn;have hpl:=h.pl;have H:=af h;clear h;go_enter Tryz.func106,Tryz.ntmps106;go_wp2;go_loopw [7,9] (fun v i wr=>∃k:Nat,i=.int .i64 (k:Int)/\k<=n/\eK 48 .u16 w.heap.size v (many num k s).1 wr/\aT 93 p b (many num k s).2 wr/\Fr (fun x=>x=p) w wr) (fun _ i _=>n-(intOf i).toNat)
 case atStart=>exact⟨0,rfl,Nat.zero_le _,.nil _ _ _ _,H.out,.refl _ _⟩
 case round=>
  obtain⟨k,rfl,hk,hO,hR,hF⟩:=hrel;have hlen:=rH (f:=num) k s;have STEP:=af (fun h=>GZ (one:=num) (k:=k) (s:=s) h);have STOP:=af (fun h=>Hl (one:=num) (n:=n) (k:=k) (s:=s) hk h);have LAST:=af (fun h:k=n=>(show many num n s=many num k s by rw[h]));generalize many num k s=q at*;obtain⟨L,l1,f1⟩:=q;dsimp only at hO hR hlen;obtain⟨a,c,rfl⟩:=Rw.cu hO.own;have O:=af hO;have R:=af hR;have F:=af hF;obtain⟨ar,cr,hb,_⟩:=hR.box;have x1:=aF hb (k:=1) (by simp);simp only[List.getElem_toArray,List.getElem_cons_zero,List.getElem_cons_succ]at x1;clear hO hR hF hb
  by_cases hlt:k<n
  ·have hkn:(k:Int)<(n:Int):=by omega
   cases f1 with
   |true=>
    have E:=af (STOP.out rfl);clear STEP STOP LAST;go_wp2;go_ret;exact⟨a,c,by rw[E.out];rfl,by rw[E.out];exact O.out.iO.1,by rw[E.out];exact O.out.iO.2,by rw[E.out];exact R.out,F.out⟩
   |false=>
    have ES:=af (STEP.out rfl);have ge:=EW O.out.own;dsimp only at ES;clear STEP STOP LAST;have NA:=af (VJ R.out);unfold lU at NA;generalize num (l1,false)=q at*;obtain⟨z,s2⟩:=q;dsimp only at NA ES
    go_wp2_with (first
     |(go_at_call 103;refine(NA.out).mono ?_;rintro e w1 ⟨rfl,hr1,d9⟩;have R2:=af (hr1.went (boxed w1 (.cells #[.int .u16 z] 48)));have O2:=af ((O.out.fr d9 hpl).went (boxed w1 (.cells #[.int .u16 z] 48)));have F2:=af (Et (mD F.out d9) (boxed w1 (.cells #[.int .u16 z] 48)));have xX:=af (yM w.heap.size w1 (.int .u16 z) 48 (mD F.out d9).size _ rfl);have l2:=F2.out.size;clear hr1 d9)
     | (at_builtin;refine Rw.lL _ rfl _ _ 66 rfl w.heap.size 48 i0 (.int .u16 0) 1 2 Tryz.underlying66 hi0 hz0 hz1 hz2 rfl (by decide) (.slice a L.length c) L.length _ rfl O2.out.own w.heap.size (.slice (some ⟨w1.heap.size,0,none⟩) 1 1) 1 [.int .u16 z] rfl xX.out (by simp[Value.oneCell']) (by unfold maxLen;omega) (by omega) l2 ?_;intro v7 w7 aM cV _;have O7:=af (eK.snoc rfl aM);have R7:=af (R2.out.grown cV hpl ge);have F7:=af (F2.out.grown cV fun x e=> .inr (ge x e));clear aM cV))
    go_roundw
    case rel=>exact⟨k+1,by go_num,by omega,by rw[ES.out];exact O7.out,by rw[ES.out];exact R7.out,F7.out⟩
    case measure=>first|(simp[intOf];omega)|omega
  ·have E:=af (LAST.out (by omega));have hkn:¬(k:Int)<(n:Int):=by omega
   clear STEP STOP LAST;go_wp2;go_ret;exact⟨a,c,by rw[E.out];rfl,by rw[E.out];exact O.out.iO.1,by rw[E.out];exact O.out.iO.2,by rw[E.out];exact R.out,F.out⟩
theorem zOn{p b m q1 q2:Nat}{s}{w}(h:aT 93 p b s w)(hq1:w.cell? ⟨q1,0,none⟩=some (.pointer (some ⟨p,0,none⟩)))(hq2:w.cell? ⟨q2,0,none⟩=some (.int .i64 (m:Int)))(hm:m<=70000):
  Calls Tryz.prog 105 #[.pointer (some ⟨q1,0,none⟩),.pointer (some ⟨q2,0,none⟩)] w (tq 93 p b (line (m:Int) s) w):=by
 have RC:=af (zOd h hm);rw[show many num m s=line (m:Int) s from rfl]at RC;clear h;unfold tq qf at*;generalize line (m:Int) s=q at*;obtain⟨r,s2⟩:=q;dsimp only at*;go_enter Tryz.func105,Tryz.ntmps105;go_wp2_with (go_at_call 106;refine(RC.out).mono ?_;rintro e w1 ⟨ra,rc,rfl,hc1,hrc,hr1,d9⟩;have Q:=af (And.intro hc1 (And.intro hr1 d9));clear hc1 hr1 d9);go_ret;exact⟨ra,rc,rfl,Q.out.1,hrc,Q.out.2.1,Q.out.2.2⟩
theorem zQi{s}(h:By s.1):(line (num s).1 (num s).2).1.length<=65535:=by
 have h1:=EL h;have:=rH (f:=num) (num s).1.toNat (num s).2;unfold line;omega
theorem Ow{s}(h:By s.1):By (num s).2.1:=by
 rcases MK s with⟨x,y,l,f,rfl⟩|hs
 ·exact fun z hz=>h z (by simp only[List.mem_cons];exact .inr (.inr hz))
 ·rw[ML hs];exact h
theorem zRh{s}(h:By s.1):(rule s).1.2.length<=65535:=zQi (Ow h)
theorem zQk(base)(w:World)(x)(v)(hb:base<=w.heap.size):(w.alloc (.cells #[.int .i64 x,v] 55)).ownsRow base 55 2 (.slice (some ⟨w.heap.size,0,none⟩) 1 1) 1 [.int .i64 x,v]:=World.ownsRow_lit w #[.int .i64 x,v] 1 hb (by decide) (by simp)
theorem yH{p b}{s}{w}(h:aT 93 p b s w):Calls Tryz.prog 90 #[.pointer (some ⟨p,0,none⟩)] w (OO 93 p b (rule s) w):=by
 have hpl:=h.pl;have hby:=h.j0;have B:=boxed w (.cells #[.int .i64 0,.slice none 0 0] 55);have NA:=af (wB (h.went B));have HB:=af (gJ w (.cells #[.int .i64 0,.slice none 0 0] 55));have F0:=af (Fr.of_below (S:=fun x=>x=p) B);have N2:=af (fun w1 (h1:aT 93 p b (num s).2 w1)=>wB h1);have hn:=EL (Ow hby);obtain⟨n,hn'⟩:∃n:Nat,(num (num s).2).1=(n:Int):=⟨_,(Int.toNat_of_nonneg hn.1).symm⟩;have RI:=af (fun w1 (h1:aT 93 p b (num (num s).2).2 w1)=>WM (n:=n) h1 (by omega));have ER:=af (show rule s=(((num s).1,(many num n (num (num s).2).2).1),(many num n (num (num s).2).2).2)from by unfold rule line;rw[hn'];rfl);unfold OO;rw[ER.out];unfold lU at NA N2;rw[hn']at N2;unfold wX qf at RI;clear h ER B hn hn' hby;generalize many num n (num (num s).2).2=q3 at*;generalize num (num s).2=q2 at*;generalize num s=q1 at*;obtain⟨z1,s1⟩:=q1;obtain⟨z2,s2⟩:=q2;obtain⟨r,s3⟩:=q3;dsimp only at*;go_enter Tryz.func90,Tryz.ntmps90
 go_wp2_with (first
  |(go_at_call 88;refine(NA.out).mono ?_;rintro e w1 ⟨rfl,hr1,d9⟩;have R1:=af hr1;have F1:=af (mD F0.out d9);have H1:=af ((d9.block w.heap.size (by rw[World.size_alloc];omega) (by omega)).trans HB.out);clear hr1 d9 NA)
  |(go_at_call 88;refine(N2.out _ R1.out).mono ?_;rintro e w2 ⟨rfl,hr2,hf2⟩;have R2:=af hr2;have F2:=af (mD F1.out hf2);have H2:=af ((hf2.block w.heap.size (Array.getElem?_eq_some_iff.1 H1.out).1 (by omega)).trans H1.out);clear hr2 hf2 N2)
  | (go_at_call 91;refine(RI.out _ R2.out).mono ?_;rintro e w3 ⟨ra,rc,rfl,hc3,hrc,hr3,hf3⟩;have H3:=(hf3.block w.heap.size (Array.getElem?_eq_some_iff.1 H2.out).1 (by omega)).trans H2.out;have g0:=fu (k:=0) H3;have g1:=fu (k:=1) H3;have y0:=aF H3 (k:=0) (by simp);have y1:=aF H3 (k:=1) (by simp);have HH:=af H3;have R3:=af hr3;have C3:=af hc3;have F3:=af (mD F2.out hf3);clear hr3 hc3 hf3 H3 RI))
 have hh:=ft (k:=1) (ft (k:=0) HH.out (.int .i64 z1)) (.slice ra r.length rc);have e0:((w3.setCell ⟨w.heap.size,0,none⟩ (.int .i64 z1)).setCell ⟨w.heap.size,1,none⟩ (.slice ra r.length rc)).cell? ⟨w.heap.size,0,none⟩=some (.int .i64 z1):=aF hh (k:=0) (by simp);have e1:((w3.setCell ⟨w.heap.size,0,none⟩ (.int .i64 z1)).setCell ⟨w.heap.size,1,none⟩ (.slice ra r.length rc)).cell? ⟨w.heap.size,1,none⟩=some (.slice ra r.length rc):=aF hh (k:=1) (by simp);have fq:=((Fr.refl (fun x=>x=w.heap.size) w3).setCell ⟨w.heap.size,0,none⟩ rfl (.int .i64 z1)).setCell ⟨w.heap.size,1,none⟩ rfl (.slice ra r.length rc);have D:=af (show dv ra r _/\aT 93 p b s3 _/\Fr (fun x=>x=p) w _ from⟨C3.out.kept ⟨_,_,HH.out⟩ (by decide) (uB fq),R3.out.fr fq hpl,(F3.out.kZ ⟨w.heap.size,0,none⟩ (Nat.le_refl _) (.int .i64 z1)).kZ ⟨w.heap.size,1,none⟩ (Nat.le_refl _) (.slice ra r.length rc)⟩);clear hh fq HH;generalize (w3.setCell ⟨w.heap.size,0,none⟩ (.int .i64 z1)).setCell ⟨w.heap.size,1,none⟩ (.slice ra r.length rc)=wE at*;exact bodyPost_ret (v:=.agg #[.int .i64 z1,.slice ra r.length rc]) (by simp[results,Tryz.results90,go_sem,e0,e1]) rfl ⟨ra,rc,rfl,D.out.1,hrc,D.out.2.1,D.out.2.2⟩
theorem zOe{p b n:Nat}{s:St}{w:World}{q1 q2 m:Nat}(hq1:w.cell? ⟨q1,0,none⟩=some (.pointer (some ⟨p,0,none⟩)))(hq2:w.cell? ⟨q2,0,none⟩=some (.int .i64 (m:Int)))(h1:q1≠p)(h2:q2≠p)(hm:m<=70000)(h:aT 93 p b s w)(hn:n<=70000):Calls Tryz.prog 104 #[.pointer (some ⟨p,0,none⟩),.int .i64 (n:Int),.func (.func 105) #[] #[.pointer (some ⟨q1,0,none⟩),.pointer (some ⟨q2,0,none⟩)]] w (tu 93 p b (many (line (m:Int)) n s) w):=by
 obtain⟨i0,hi0,hz0,hz1,hz2⟩:=info_parts GW;have hpl:=h.pl;have H:=af h;clear h;go_enter Tryz.func104,Tryz.ntmps104;go_wp2;go_loopw [7,9] (fun v i wr=>∃k:Nat,i=.int .i64 (k:Int)/\k<=n/\eN w.heap.size v (many (line (m:Int)) k s).1 wr/\aT 93 p b (many (line (m:Int)) k s).2 wr/\Fr (fun x=>x=p) w wr) (fun _ i _=>n-(intOf i).toNat)
 case atStart=>exact⟨0,rfl,Nat.zero_le _,.nil _ _,H.out,.refl _ _⟩
 case round=>
  obtain⟨k,rfl,hk,hO,hR,hF⟩:=hrel;have hlen:=rH (f:=(line (m:Int))) k s;have STEP:=af (fun h=>GZ (one:=(line (m:Int))) (k:=k) (s:=s) h);have STOP:=af (fun h=>Hl (one:=(line (m:Int))) (n:=n) (k:=k) (s:=s) hk h);have LAST:=af (fun h:k=n=>(show many (line (m:Int)) n s=many (line (m:Int)) k s by rw[h]));generalize many (line (m:Int)) k s=q at*;obtain⟨L,l1,f1⟩:=q;dsimp only at hO hR hlen;obtain⟨a,c,rfl⟩:=hO.shape;have O:=af hO;have R:=af hR;have F:=af hF;obtain⟨ar,cr,hb,_⟩:=hR.box;have x1:=aF hb (k:=1) (by simp);simp only[List.getElem_toArray,List.getElem_cons_zero,List.getElem_cons_succ]at x1;have RA:=af (zOn (m:=m) hR (hF.cell hq1 h1) (hF.cell hq2 h2) hm);clear hO hR hF hb
  by_cases hlt:k<n
  ·have hkn:(k:Int)<(n:Int):=by omega
   cases f1 with
   |true=>
    have E:=af (STOP.out rfl);clear STEP STOP LAST;go_wp2;go_ret;exact⟨a,c,by rw[E.out];rfl,by rw[E.out];exact O.out.done.1,by rw[E.out];exact O.out.done.2,by rw[E.out];exact R.out,F.out⟩
   |false=>
    have ES:=af (STEP.out rfl);have ge:=O.out.ge;dsimp only at ES;clear STEP STOP LAST;unfold tq qf at RA;have hl:=rH (f:=num) (m:Int).toNat (l1,false);rw[show many num (m:Int).toNat (l1,false)=line (m:Int) (l1,false)from rfl]at hl;generalize line (m:Int) (l1,false)=q at*;obtain⟨r,s2⟩:=q;dsimp only at RA ES hl
    go_wp2_with (first
     |(go_at_call 105;refine(RA.out).mono ?_;rintro e w1 ⟨ra,rc,rfl,hc1,hrc,hr1,d9⟩;have R2:=af (hr1.went (boxed w1 (.cells #[.slice ra r.length rc] 66)));have O2:=af ((O.out.fr R.out.ty (by decide) d9 hpl).went (boxed w1 (.cells #[.slice ra r.length rc] 66)));have F2:=af (Et (mD F.out d9) (boxed w1 (.cells #[.slice ra r.length rc] 66)));have xX:=af (yM w.heap.size w1 (.slice ra r.length rc) 66 (mD F.out d9).size _ rfl);have l2:=F2.out.size;obtain⟨vs,hv,xV⟩:=O2.out.snoc (hc1.went (boxed w1 (.cells #[.slice ra r.length rc] 66))) hrc (by omega) rfl;have V:=af hv;have V7:=af xV;clear hr1 d9 hc1 hv xV)
     | (at_builtin;refine Rw.lL _ rfl _ _ 30 rfl w.heap.size 66 i0 (.slice none 0 0) 1 24 Tryz.underlying30 hi0 hz0 hz1 hz2 rfl (by decide) (.slice a L.length c) L.length _ rfl V.out w.heap.size (.slice (some ⟨w1.heap.size,0,none⟩) 1 1) 1 [.slice ra r.length rc] rfl xX.out (by simp[Value.oneCell']) (by unfold maxLen;omega) (by omega) l2 ?_;intro v7 w7 aM cV _;have O7:=af (V7.out v7 w7 aM cV);have R7:=af (R2.out.grown cV hpl ge);have F7:=af (F2.out.grown cV fun x e=> .inr (ge x e));clear aM cV))
    go_roundw
    case rel=>exact⟨k+1,by go_num,by omega,by rw[ES.out];exact O7.out,by rw[ES.out];exact R7.out,F7.out⟩
    case measure=>first|(simp[intOf];omega)|omega
  ·have E:=af (LAST.out (by omega));have hkn:¬(k:Int)<(n:Int):=by omega
   clear STEP STOP LAST;go_wp2;go_ret;exact⟨a,c,by rw[E.out];rfl,by rw[E.out];exact O.out.done.1,by rw[E.out];exact O.out.done.2,by rw[E.out];exact R.out,F.out⟩
theorem zOf{p b n:Nat}{s:St}{w:World}(h:aT 93 p b s w)(hn:n<=70000):Calls Tryz.prog 89 #[.pointer (some ⟨p,0,none⟩),.int .i64 (n:Int),.func (.func 90) #[.pointer (some ⟨p,0,none⟩)] #[]] w (Ao 93 p b (many rule n s) w):=by
 obtain⟨i0,hi0,hz0,hz1,hz2⟩:=info_parts MG;have hpl:=h.pl;have H:=af h;clear h;go_enter Tryz.func89,Tryz.ntmps89;go_wp2;go_loopw [7,9] (fun v i wr=>∃k:Nat,i=.int .i64 (k:Int)/\k<=n/\eO w.heap.size v (many rule k s).1 wr/\aT 93 p b (many rule k s).2 wr/\Fr (fun x=>x=p) w wr) (fun _ i _=>n-(intOf i).toNat)
 case atStart=>exact⟨0,rfl,Nat.zero_le _,.nil _ _,H.out,.refl _ _⟩
 case round=>
  obtain⟨k,rfl,hk,hO,hR,hF⟩:=hrel;have hlen:=rH (f:=rule) k s;have STEP:=af (fun h=>GZ (one:=rule) (k:=k) (s:=s) h);have STOP:=af (fun h=>Hl (one:=rule) (n:=n) (k:=k) (s:=s) hk h);have LAST:=af (fun h:k=n=>(show many rule n s=many rule k s by rw[h]));generalize many rule k s=q at*;obtain⟨L,l1,f1⟩:=q;dsimp only at hO hR hlen;obtain⟨a,c,rfl⟩:=hO.shape;have O:=af hO;have R:=af hR;have F:=af hF;obtain⟨ar,cr,hb,_⟩:=hR.box;have x1:=aF hb (k:=1) (by simp);simp only[List.getElem_toArray,List.getElem_cons_zero,List.getElem_cons_succ]at x1;have RA:=af (yH hR);have hby:=hR.j0;clear hO hR hF hb
  by_cases hlt:k<n
  ·have hkn:(k:Int)<(n:Int):=by omega
   cases f1 with
   |true=>
    have E:=af (STOP.out rfl);clear STEP STOP LAST;go_wp2;go_ret;exact⟨a,c,by rw[E.out];rfl,by rw[E.out];exact O.out.done.1,by rw[E.out];exact O.out.done.2,by rw[E.out];exact R.out,F.out⟩
   |false=>
    have ES:=af (STEP.out rfl);have ge:=O.out.ge;dsimp only at ES;clear STEP STOP LAST;unfold OO at RA;have hl:=zRh (s:=(l1,false)) hby;generalize rule (l1,false)=q at*;obtain⟨r,s2⟩:=q;dsimp only at RA ES hl
    go_wp2_with (first
     |(go_at_call 90;refine(RA.out).mono ?_;rintro e w1 ⟨ra,rc,rfl,hc1,hrc,hr1,d9⟩;have R2:=af (hr1.went (boxed w1 (.cells #[.int .i64 r.1,.slice ra r.2.length rc] 55)));have O2:=af ((O.out.fr R.out.ty (by decide) d9 hpl).went (boxed w1 (.cells #[.int .i64 r.1,.slice ra r.2.length rc] 55)));have F2:=af (Et (mD F.out d9) (boxed w1 (.cells #[.int .i64 r.1,.slice ra r.2.length rc] 55)));have xX:=af (zQk w.heap.size w1 r.1 (.slice ra r.2.length rc) (mD F.out d9).size);have l2:=F2.out.size;obtain⟨vs,hv,xV⟩:=O2.out.snoc (r:=r) (hc1.went (boxed w1 (.cells #[.int .i64 r.1,.slice ra r.2.length rc] 55))) hrc (by omega) rfl;have V:=af hv;have V7:=af xV;clear hr1 d9 hc1 hv xV)
     | (at_builtin;refine Rw.lL _ rfl _ _ 22 rfl w.heap.size 55 i0 (.agg #[.int .i64 0,.slice none 0 0]) 2 32 Tryz.underlying22 hi0 hz0 hz1 hz2 rfl (by decide) (.slice a L.length c) L.length _ rfl V.out w.heap.size (.slice (some ⟨w1.heap.size,0,none⟩) 1 1) 1 [.int .i64 r.1,.slice ra r.2.length rc] rfl xX.out (by simp[Value.oneCell']) (by unfold maxLen;omega) (by omega) l2 ?_;intro v7 w7 aM cV _;have O7:=af (V7.out v7 w7 aM cV);have R7:=af (R2.out.grown cV hpl ge);have F7:=af (F2.out.grown cV fun x e=> .inr (ge x e));clear aM cV))
    go_roundw
    case rel=>exact⟨k+1,by go_num,by omega,by rw[ES.out];exact O7.out,by rw[ES.out];exact R7.out,F7.out⟩
    case measure=>first|(simp[intOf];omega)|omega
  ·have E:=af (LAST.out (by omega));have hkn:¬(k:Int)<(n:Int):=by omega
   clear STEP STOP LAST;go_wp2;go_ret;exact⟨a,c,by rw[E.out];rfl,by rw[E.out];exact O.out.done.1,by rw[E.out];exact O.out.done.2,by rw[E.out];exact R.out,F.out⟩
end Ts
namespace Ts
open Pk
open Gr (boxed)
open Au (uz)
def iw(c:Int):Bool:=decide (0<=c/\c<=65535)
def bv(L:List Int):List Value:=L.map (.int .u8)
structure bJ (base p:Nat) (N:List Int) (w:World):Prop where
 ex:∃v,w.heap[p]?=some (.cells #[v,.bool (!N.all iw)] 82 (0,0))/\(N.all iw=true->w.ownsRow base 5 1 v (head++txt N).length (bv (head++txt N)))
 lo:base<=p
structure iN (base:Nat) (w w':World):Prop where
 below:Below base w w'
 keep:∀k T,Ty k T w->T≠82->T≠5->w'.heap[k]?=w.heap[k]?
section
variable {base p:Nat} {N:List Int} {w w' w2:World} {n:Int}
theorem iN.refl(w):iN base w w:=⟨.refl _ _,fun _ _ _ _ _=>rfl⟩
theorem iN.trans(h:iN base w w')(k:iN base w' w2):iN base w w2:=⟨h.below.trans k.below,fun i T hT h1 h2=>(k.keep i T (by
 obtain⟨cur,fz,e⟩:=hT
 exact⟨cur,fz,(h.keep i T ⟨cur,fz,e⟩ h1 h2).trans e⟩) h1 h2).trans (h.keep i T hT h1 h2)⟩
theorem iN.of_below(hb:Below w.heap.size w w')(h:base<=w.heap.size):iN base w w':=⟨hb.mono h,fun k T hT _ _=>by
 obtain⟨cur,fz,e⟩:=hT
 exact hb.block k (Array.getElem?_eq_some_iff.1 e).1⟩
theorem iN.grown{T}(hT:T=82\/T=5){o}(hg:w.grownBy w' o)(ho:∀x,o=some x->base<=x/\Ty x T w)(hs:base<=w.heap.size):iN base w w':=by
 refine⟨⟨hg.os,hg.tape,hg.output,by have:=hg.size;omega,fun k hk=>hg.block k (by omega) fun e=>by have:=(ho k e.symm).1;omega⟩,fun k U hU h1 h2=>hg.block k ?_ fun e=>?_⟩
 ·obtain⟨cur,fz,e⟩:=hU;exact(Array.getElem?_eq_some_iff.1 e).1
 ·have:=(ho k e.symm).2;obtain⟨c1,f1,e1⟩:=this;obtain⟨c2,f2,e2⟩:=hU;rw[e1]at e2;injection e2 with e2
  injection e2 with _ e2 _
  subst e2;rcases hT with rfl|rfl
  ·exact h1 rfl
  ·exact h2 rfl
theorem Ya{v}{m}{xs}(h:w.ownsRow base 5 1 v (m+2) (xs++[.int .u8 (n / 256),.int .u8 (n % 256)]))(e1:m=(head++txt N).length)(e2:xs=bv (head++txt N)):w.ownsRow base 5 1 v (head++txt (N++[n])).length (bv (head++txt (N++[n]))):=by
 have a1:(head++txt (N++[n])).length=m+2:=by
  rw[EI,e1,List.length_append,List.length_append,List.length_append];simp[txt];omega
 have a2:bv (head++txt (N++[n]))=xs++[.int .u8 (n / 256),.int .u8 (n % 256)]:=by
  rw[e2,EI];simp[bv,txt]
 rw[a1,a2];exact h
theorem bJ.pl(h:bJ base p N w):p<w.heap.size:=by
 obtain⟨v,h1,_⟩:=h.ex;exact(Array.getElem?_eq_some_iff.1 h1).1
theorem bJ.iH(h:bJ base p N w):base<=w.heap.size:=by
 have:=h.pl;have:=h.lo;omega
theorem bJ.went(h:bJ base p N w)(hb:Below w.heap.size w w'):bJ base p N w':=by
 obtain⟨v,h1,h2⟩:=h.ex;exact⟨⟨v,(hb.block p (Array.getElem?_eq_some_iff.1 h1).1).trans h1,fun e=>Em (h2 e) hb⟩,h.lo⟩
theorem bJ.mark(h:bJ base p N w)(hn:(N++[n]).all iw=false):bJ base p (N++[n]) (w.setCell ⟨p,1,none⟩ (.bool true))/\iN base w (w.setCell ⟨p,1,none⟩ (.bool true)):=by
 obtain⟨v,h1,h2⟩:=h.ex;have g:=Rg.jg w p 1 (.bool true);refine⟨⟨⟨v,?_,fun e=>by rw[hn]at e;cases e⟩,h.lo⟩,.grown (.inl rfl) g (fun x e=>by injection e with e;subst e;exact⟨h.lo,_,_,h1⟩) h.iH⟩;rw[hn,ft h1]
 rfl
theorem bJ.app(h:bJ base p N w)(hN:N.all iw=true)(hn:iw n=true):∃v m xs,w.cell? ⟨p,0,none⟩=some v/\m=(head++txt N).length/\xs=bv (head++txt N)/\(∃a c,v=.slice a m c)/\
  (w.setCell ⟨p,1,none⟩ (.bool false)).cell? ⟨p,0,none⟩=some v/\((w.setCell ⟨p,1,none⟩ (.bool false)).alloc (.cells #[.int .u8 (n / 256),.int .u8 (n % 256)] 5)).ownsRow base 5 1 v m xs/\
  ((w.setCell ⟨p,1,none⟩ (.bool false)).alloc (.cells #[.int .u8 (n / 256),.int .u8 (n % 256)] 5)).ownsRow base 5 1 (.slice (some ⟨w.heap.size,0,none⟩) 2 2) 2 [.int .u8 (n / 256),.int .u8 (n % 256)]/\base<=((w.setCell ⟨p,1,none⟩ (.bool false)).alloc (.cells #[.int .u8 (n / 256),.int .u8 (n % 256)] 5)).heap.size/\
  ∀v' w',w'.ownsRow base 5 1 v' (m+2) (xs++[.int .u8 (n / 256),.int .u8 (n % 256)])->((w.setCell ⟨p,1,none⟩ (.bool false)).alloc (.cells #[.int .u8 (n / 256),.int .u8 (n % 256)] 5)).grownBy w' v.ownBlock->
   w'.cell? ⟨p,0,none⟩=some v/\w'.frozen? ⟨p,0,none⟩=false/\bJ base p (N++[n]) (w'.setCell ⟨p,0,none⟩ v')/\iN base w (w'.setCell ⟨p,0,none⟩ v'):=by
 obtain⟨v,h1,h3⟩:=h.ex;have h2:=h3 hN;obtain⟨m,e1⟩:∃m,m=(head++txt N).length:=⟨_,rfl⟩;obtain⟨xs,e2⟩:∃xs,xs=bv (head++txt N):=⟨_,rfl⟩;rw[←e1,←e2]at h2;have hbl:=h.iH;have hlo:=h.lo;have hpl:=h.pl;have g1:=Rg.jg w p 1 (.bool false);have hb1:=ft h1 (k:=1) (.bool false);have LJ:=Nz h2 ⟨_,_,h1⟩ (by decide) g1;have bb:=boxed (w.setCell ⟨p,1,none⟩ (.bool false)) (.cells #[.int .u8 (n / 256),.int .u8 (n % 256)] 5);have uo:=Em LJ bb;have hb2:=(bb.block p (Array.getElem?_eq_some_iff.1 hb1).1).trans hb1;have W1:iN base w (w.setCell ⟨p,1,none⟩ (.bool false)):=.grown (.inl rfl) g1 (fun x e=>by injection e with e;subst e;exact⟨hlo,_,_,h1⟩) hbl;have hs:base<=(w.setCell ⟨p,1,none⟩ (.bool false)).heap.size:=by rw[World.size_setCell];exact hbl
 have W2:=W1.trans (.of_below bb hs);have lit:=World.ownsRow_lit (base:=base) (e:=5) (size:=1) (w.setCell ⟨p,1,none⟩ (.bool false)) #[.int .u8 (n / 256),.int .u8 (n % 256)] 2 hs (by decide) (by simp);rw[World.size_setCell]at lit;refine⟨v,m,xs,aF h1 (k:=0) (by simp),e1,e2,Rw.cu h2,aF hb1 (k:=0) (by simp),uo,lit,by rw[World.size_alloc];omega,fun v' w' hown hg=>?_⟩;have hs2:base<=((w.setCell ⟨p,1,none⟩ (.bool false)).alloc (.cells #[.int .u8 (n / 256),.int .u8 (n % 256)] 5)).heap.size:=by rw[World.size_alloc];omega
 have hne:∀x,v.ownBlock=some x->x≠p:=fun x e e2=>by
  subst e2;obtain⟨c1,f1,k1⟩:=pI uo e;rw[hb2]at k1;injection k1 with k1
  injection k1 with _ k1 _
  exact absurd k1 (by decide)
 have hb3:=(hg.block p (Array.getElem?_eq_some_iff.1 hb2).1 fun e=>hne p e.symm rfl).trans hb2;have g3:=Rg.jg w' p 0 v';have hall:(N++[n]).all iw=true:=by rw[List.all_append,hN];simp[hn]
 have W3:iN base w w':=W2.trans (.grown (.inr rfl) hg (fun x e=>⟨EW uo x e,pI uo e⟩) hs2);have hs3:base<=w'.heap.size:=by have:=hg.size;omega
 refine⟨aF hb3 (k:=0) (by simp),fu hb3,⟨⟨v',?_,fun _=>Ya (Nz hown ⟨_,_,hb3⟩ (by decide) g3) e1 e2⟩,hlo⟩,W3.trans (.grown (.inl rfl) g3 (fun x e=>by injection e with e;subst e;exact⟨hlo,_,_,hb3⟩) hs3)⟩
 ·rw[hall,ft hb3]
  rfl
end
def nZ(base p:Nat)(N:List Int)(w:World)(e:Ending)(w':World):Prop:=e=.returned (.tuple #[])/\bJ base p N w'/\iN base w w'
theorem UW(n):(iw n=true/\0<=n/\n<=65535)\/(iw n=false/\n<0)\/(iw n=false/\0<=n/\65535<n):=by
 unfold iw
 by_cases h:0<=n/\n<=65535
 ·exact .inl ⟨decide_eq_true h,h⟩
 ·have hd:decide (0<=n/\n<=65535)=false:=decide_eq_false h
  by_cases h0:n<0
  ·exact .inr (.inl ⟨hd,h0⟩)
  ·exact .inr (.inr ⟨hd,by omega,by omega⟩)
theorem yq{base p:Nat}{N:List Int}{w:World}(n:Int)(h:bJ base p N w)(hl:N.length<=1000000000000):Calls Tryz.prog 46 #[.pointer (some ⟨p,0,none⟩),.int .i64 n] w (nZ base p (N++[n]) w):=by
 obtain⟨v0,hb,hown⟩:=h.ex;have x1:=aF hb (k:=1) (by simp);have f1:=fu (k:=1) hb;simp only[List.getElem_toArray,List.getElem_cons_zero,List.getElem_cons_succ]at x1;have sh:∀b:Bool,(w.setCell ⟨p,1,none⟩ (.bool b)).cell? ⟨p,1,none⟩=some (.bool b):=fun b=>aF (ft hb (.bool b)) (k:=1) (by simp)
 by_cases hN:N.all iw=true
 ·rw[hN]at x1;rcases UW n with⟨hc,h0,h1⟩|⟨hc,h0⟩|⟨hc,h0,h1⟩
  ·obtain⟨v,m,xs,c0,em,ex,⟨a,c,rfl⟩,c0',o2,lit,hs,fin⟩:=h.app hN hc;have O2:=af o2;have LI:=af lit;have FN:=af fin;have hm:m<=3000000000000:=by rw[em,List.length_append,sF];have:head.length=3:=rfl;omega
   have hw1:IntKind.u8.wrap (n / 256)=n / 256:=by rw[IntKind.wrap_u8];omega
   have hw2:IntKind.u8.wrap n=n % 256:=by rw[IntKind.wrap_u8]
   have hsh:Op.shift BinOp.shr IntKind.i64 n IntKind.u64 8=pure (.int .i64 (n / 256)):=by
    show pure (Value.int .i64 (n.fdiv (2^8)))= _;rw[Int.fdiv_eq_ediv_of_nonneg _ (by decide)]
    rfl
   obtain⟨i0,hi0,hz0,hz1,hz2⟩:=info_parts uz;have Lt:¬n<0:=by omega
   have n1':¬65535<n:=by omega
   have s1:=sh false;clear o2 lit fin em ex hb hown sh h;go_enter Tryz.func46,Tryz.ntmps46;go_wp2_with (at_builtin;refine Rw.lL _ rfl _ _ 39 rfl base 5 i0 (.int .u8 0) 1 1 Tryz.underlying39 hi0 hz0 hz1 hz2 rfl (by decide) (.slice a m c) m _ rfl O2.out base (.slice (some ⟨w.heap.size,0,none⟩) 2 2) 2 [.int .u8 (n / 256),.int .u8 (n % 256)] rfl LI.out (by simp[Value.oneCell']) (by unfold maxLen;omega) (by omega) hs ?_;intro v7 w7 aM cV _;obtain⟨a7,c7,rfl⟩:=Rw.cu aM;obtain⟨k0,k1,k2,k3⟩:=FN.out _ w7 aM cV;have K2:=af k2;have K3:=af k3;clear aM cV k2 k3);exact bodyPost_ret (v:=.tuple #[]) (by simp[results,Tryz.results46,go_sem]) rfl ⟨rfl,K2.out,K3.out⟩
  ·have M:=af (h.mark (n:=n) (by rw[List.all_append];simp[hc]));have s1:=sh true;clear hb hown sh h;go_enter Tryz.func46,Tryz.ntmps46;go_wp2;exact bodyPost_ret (v:=.tuple #[]) (by simp[results,Tryz.results46,go_sem]) rfl ⟨rfl,M.out.1,M.out.2⟩
  ·have M:=af (h.mark (n:=n) (by rw[List.all_append];simp[hc]));have s1:=sh true;have Lt:¬n<0:=by omega
   clear hb hown sh h;go_enter Tryz.func46,Tryz.ntmps46;go_wp2;exact bodyPost_ret (v:=.tuple #[]) (by simp[results,Tryz.results46,go_sem]) rfl ⟨rfl,M.out.1,M.out.2⟩
 ·have hN':N.all iw=false:=by simpa using hN
  rw[hN']at x1;have M:=af (h.mark (n:=n) (by rw[List.all_append,hN'];rfl));have s1:=sh true;clear hb hown sh h hN;go_enter Tryz.func46,Tryz.ntmps46;go_wp2;exact bodyPost_ret (v:=.tuple #[]) (by simp[results,Tryz.results46,go_sem]) rfl ⟨rfl,M.out.1,M.out.2⟩
theorem zRK{w:World}{base base' size n}{e}{v}{xs}(h:w.ownsRow base e size v n xs)(hb:base'<=base):w.ownsRow base' e size v n xs:=
 ⟨h.1,h.2.imp id fun⟨g,cap,cur,e1,e2,e3⟩=>⟨g,cap,cur,e1,Nat.le_trans hb e2,e3⟩⟩
structure rV (base p g:Nat) (w:World):Prop where
 box:w.heap[p]?=some (.cells #[.slice (some ⟨g,0,none⟩) 3 3,.bool false] 82 (0,0))
 row:w.heap[g]?=some (.cells #[.int .u8 76,.int .u8 84,.int .u8 49] 5 (3,4))
 lo:base<=p
theorem rV.pl{base p g}{w}(h:rV base p g w):p<w.heap.size:=(Array.getElem?_eq_some_iff.1 h.box).1
theorem rV.ne{base p g}{w}(h:rV base p g w):g≠p:=fun e=>by
 have h1:=h.row;rw[e,h.box]at h1;injection h1 with h1
 injection h1 with _ h1 _
 exact absurd h1 (by decide)
theorem rV.mark{base p g}{w}{n}(h:rV base p g w)(hn:iw n=false):bJ base p ([]++[n]) (w.setCell ⟨p,1,none⟩ (.bool true))/\iN base w (w.setCell ⟨p,1,none⟩ (.bool true)):=by
 have hn':([]++[n]).all iw=false:=by simp[hn]
 have hpl:=h.pl;have hlo:=h.lo;refine⟨⟨⟨.slice (some ⟨g,0,none⟩) 3 3,by rw[hn',ft h.box];rfl,fun e=>by rw[hn']at e;cases e⟩,hlo⟩,.grown (.inl rfl) (Rg.jg w p 1 (.bool true)) (fun x e=>by injection e with e;subst e;exact⟨hlo,_,_,h.box⟩) (by omega)⟩
theorem rV.app{base p g}{w}{n}(h:rV base p g w)(hn:iw n=true)(v')(w')
  (hown:w'.ownsRow ((w.setCell ⟨p,1,none⟩ (.bool false)).alloc (.cells #[.int .u8 (n / 256),.int .u8 (n % 256)] 5)).heap.size 5 1 v' (3+2) (bv head++[.int .u8 (n / 256),.int .u8 (n % 256)]))
  (hg:((w.setCell ⟨p,1,none⟩ (.bool false)).alloc (.cells #[.int .u8 (n / 256),.int .u8 (n % 256)] 5)).grownBy w' none):
  w'.cell? ⟨p,0,none⟩=some (.slice (some ⟨g,0,none⟩) 3 3)/\w'.frozen? ⟨p,0,none⟩=false/\bJ base p ([]++[n]) (w'.setCell ⟨p,0,none⟩ v')/\iN base w (w'.setCell ⟨p,0,none⟩ v'):=by
 have hpl:=h.pl;have hlo:=h.lo;have g1:=Rg.jg w p 1 (.bool false);have hb1:=ft h.box (k:=1) (.bool false);have bb:=boxed (w.setCell ⟨p,1,none⟩ (.bool false)) (.cells #[.int .u8 (n / 256),.int .u8 (n % 256)] 5);have hb2:=(bb.block p (Array.getElem?_eq_some_iff.1 hb1).1).trans hb1;have hb3:=(hg.block p (Array.getElem?_eq_some_iff.1 hb2).1 (by simp)).trans hb2;have W1:iN base w (w.setCell ⟨p,1,none⟩ (.bool false)):=.grown (.inl rfl) g1 (fun x e=>by injection e with e;subst e;exact⟨hlo,_,_,h.box⟩) (by omega);have hs:base<=(w.setCell ⟨p,1,none⟩ (.bool false)).heap.size:=by rw[World.size_setCell];omega
 have W2:=W1.trans (.of_below bb hs);have hs2:base<=((w.setCell ⟨p,1,none⟩ (.bool false)).alloc (.cells #[.int .u8 (n / 256),.int .u8 (n % 256)] 5)).heap.size:=by rw[World.size_alloc];omega
 have W3:iN base w w':=W2.trans (.grown (.inr rfl) hg (fun x e=>by cases e) hs2);have hs3:base<=w'.heap.size:=by have:=hg.size;omega
 have g3:=Rg.jg w' p 0 v';have hall:([]++[n]).all iw=true:=by simp[hn]
 refine⟨aF hb3 (k:=0) (by simp),fu hb3,⟨⟨v',by rw[hall,ft hb3];rfl,fun _=>?_⟩,hlo⟩,W3.trans (.grown (.inl rfl) g3 (fun x e=>by injection e with e;subst e;exact⟨hlo,_,_,hb3⟩) hs3)⟩;have o1:=Nz hown ⟨_,_,hb3⟩ (by decide) g3;have o2:(w'.setCell ⟨p,0,none⟩ v').ownsRow base 5 1 v' (3+2) (bv head++[.int .u8 (n / 256),.int .u8 (n % 256)]):=zRK o1 hs2;exact Ya (N:=[]) o2 rfl rfl
theorem zHb{base p g:Nat}{w:World}(n:Int)(h:rV base p g w):Calls Tryz.prog 46 #[.pointer (some ⟨p,0,none⟩),.int .i64 n] w (nZ base p ([]++[n]) w):=by
 have x0:=aF h.box (k:=0) (by simp);have x1:=aF h.box (k:=1) (by simp);have f1:=fu (k:=1) h.box;simp only[List.getElem_toArray,List.getElem_cons_zero,List.getElem_cons_succ]at x0 x1;have sh:∀b:Bool,(w.setCell ⟨p,1,none⟩ (.bool b)).cell? ⟨p,1,none⟩=some (.bool b):=fun b=>aF (ft h.box (.bool b)) (k:=1) (by simp)
 have zH:∀b:Bool,(w.setCell ⟨p,1,none⟩ (.bool b)).cell? ⟨p,0,none⟩=some (.slice (some ⟨g,0,none⟩) 3 3):=fun b=>aF (ft h.box (.bool b)) (k:=0) (by simp)
 rcases UW n with⟨hc,h0,h1⟩|⟨hc,h0⟩|⟨hc,h0,h1⟩
 ·have FN:=af (fun v' w'=>h.app hc v' w');have hw1:IntKind.u8.wrap (n / 256)=n / 256:=by rw[IntKind.wrap_u8];omega
  have hw2:IntKind.u8.wrap n=n % 256:=by rw[IntKind.wrap_u8]
  have hsh:Op.shift BinOp.shr IntKind.i64 n IntKind.u64 8=pure (.int .i64 (n / 256)):=by
   show pure (Value.int .i64 (n.fdiv (2^8)))= _;rw[Int.fdiv_eq_ediv_of_nonneg _ (by decide)]
   rfl
  obtain⟨i0,hi0,hz0,hz1,hz2⟩:=info_parts uz;have Lt:¬n<0:=by omega
  have n1':¬65535<n:=by omega
  have s1:=sh false;have s0:=zH false
  have HR:=af (show∀j u,(bv head)[j]?=some u->((w.setCell ⟨p,1,none⟩ (.bool false)).alloc (.cells #[.int .u8 (n / 256),.int .u8 (n % 256)] 5)).cell? ((⟨g,0,none⟩:Addr).add j)=some u from fun j u hj=>by
   have Kh:=(Rg.jg w p 1 (.bool false)).block g (Array.getElem?_eq_some_iff.1 h.row).1 (fun e=>by injection e with e;exact h.ne e);have hgr:=Kh.trans h.row;have hb:=boxed (w.setCell ⟨p,1,none⟩ (.bool false)) (.cells #[.int .u8 (n / 256),.int .u8 (n % 256)] 5);have Kg:=(hb.block g (Array.getElem?_eq_some_iff.1 hgr).1).trans hgr;rw[WideShapes.add_plain];have hj3:j<3:=(List.getElem?_eq_some_iff.1 hj).1;have hc:j=0\/j=1\/j=2:=by omega
   unfold World.cell?
   rcases hc with rfl|rfl|rfl<;>(simp[bv,head]at hj;subst hj;simp[Kg]))
  have LR:=af (show∀j u,[Value.int .u8 (n / 256),.int .u8 (n % 256)][j]?=some u->((w.setCell ⟨p,1,none⟩ (.bool false)).alloc (.cells #[.int .u8 (n / 256),.int .u8 (n % 256)] 5)).cell? ((⟨w.heap.size,0,none⟩:Addr).add j)=some u from fun j u hj=>by
   have hh:=gJ (w.setCell ⟨p,1,none⟩ (.bool false)) (.cells #[.int .u8 (n / 256),.int .u8 (n % 256)] 5);rw[World.size_setCell]at hh;rw[WideShapes.add_plain];have ki:j<2:=(List.getElem?_eq_some_iff.1 hj).1;have hc:j=0\/j=1:=by omega
   rcases hc with rfl|rfl
   ·simp at hj;subst hj;exact aF hh (k:=0) (by simp)
   ·simp at hj;subst hj
    exact aF hh (k:=1) (by simp))
  clear sh zH h;go_enter Tryz.func46,Tryz.ntmps46;go_wp2_with (at_builtin;refine wpList_append_grows _ rfl _ _ 39 rfl 5 i0 (.int .u8 0) 1 1 Tryz.underlying39 hi0 hz0 hz1 hz2 rfl (by decide) (some ⟨g,0,none⟩) 3 3 (bv head) rfl (fun e=>by cases e) rfl (fun b e=>by injection e with e;subst e;exact HR.out) ⟨w.heap.size,0,none⟩ 2 2 [.int .u8 (n / 256),.int .u8 (n % 256)] rfl rfl LR.out (by simp[Value.oneCell']) (by omega) (by unfold maxLen;omega) (by omega) ?_;intro v7 w7 aM cV;obtain⟨a7,c7,rfl⟩:=Rw.cu aM;obtain⟨k0,k1,k2,k3⟩:=FN.out _ w7 aM cV;have K2:=af k2;have K3:=af k3;clear aM cV k2 k3);exact bodyPost_ret (v:=.tuple #[]) (by simp[results,Tryz.results46,go_sem]) rfl ⟨rfl,K2.out,K3.out⟩
 ·have M:=af (h.mark hc);have s1:=sh true;clear sh zH h;go_enter Tryz.func46,Tryz.ntmps46;go_wp2;exact bodyPost_ret (v:=.tuple #[]) (by simp[results,Tryz.results46,go_sem]) rfl ⟨rfl,M.out.1,M.out.2⟩
 ·have M:=af (h.mark hc);have s1:=sh true;have Lt:¬n<0:=by omega
  clear sh zH h;go_enter Tryz.func46,Tryz.ntmps46;go_wp2;exact bodyPost_ret (v:=.tuple #[]) (by simp[results,Tryz.results46,go_sem]) rfl ⟨rfl,M.out.1,M.out.2⟩
