/- Proof. -/
import Derived.Test.YtegeamggbglneaaGreatDoorPk23
import Derived.Test.YtegeamggbglneaaGreatDoorPk50
import Derived.Test.YtegeamggbglneaaGreatDoorPk49
set_option maxHeartbeats 8000000
set_option maxRecDepth 100000
set_option linter.unusedVariables false
namespace Go.Proofs.YtegeamggbglneaaGreatDoor
open Go.RowKit Go.Maps
namespace Ts
open Pk
open Gr (boxed)
theorem Lu{b o c:Nat}{L:List Int}{w:World}(h:dS (some ⟨b,o,none⟩) c L w)(h1:jk L=0){P:Pd}{l1:List Int}{f1:Bool}(hq:table (L.drop 3,false)=(P,(l1,f1)))(hf:f1=true):Calls Tryz.prog 19 #[.slice (some ⟨b,o,none⟩) L.length c] w (nU L w):=by
  have B1:=boxed w (.cells dH 32);have HE:=af (DT (h.went B1));have Y1:=af (gJ w (.cells dH 32));have BB:=af B1;rw[h1]at HE;have h3:=Ek h1;have hcap:=h.cap;have h3':¬L.length<3:=by omega
  have JK:(3:Int)<=(L.length:Int):=by omega
  have TA:=af (fun w1 (hb:Below w.heap.size w w1) o' c' (ho:0<L.length-3->o'=o+3) (hc:L.length-3<=c')=>Hb (Ij (T:=93) (h.went hb) h3 (o':=o') (c':=c') ho hc));rw[hq]at TA;unfold zZ at TA;dsimp only at TA;have kP:=(IC.ok (L.drop 3,false) (fun x hx=>h.j0 x (List.mem_of_mem_drop hx))).1;rw[hq]at kP;have y8:=af kP;have RI:=af (fun aR cR aW cW aX cX aG cG aH cH w1 (D:dX P aR cR aW cW aX cX aG cG aH cH w1)=>D4 P aR cR aW cW aX cX aG cG aH cH w1 D kP.sm);have NO:=af (fun(w':World) (hb:Below w.heap.size w w')=>H8 (zVY h1 hq hf) hb);subst hf;clear h kP hq;unfold dH bU at*;clear BB;have BB:=af B1;go_enter Tryz.func19,Tryz.ntmps19
  go_wp2_with (first
   |(go_at_call 55;refine(HE.out).mono ?_;rintro e w1 ⟨rfl,hb⟩;have B2:=af (Gr.step BB.out hb);have Y2:=af ((hb.block _ (Array.getElem?_eq_some_iff.1 Y1.out).1).trans Y1.out);have hs1:w.heap.size<w1.heap.size:=(Array.getElem?_eq_some_iff.1 Y2.out).1;clear hb)
   |(go_at_call 56;(with_reducible refine(TA.out w1 B2.out _ _ (by omega) (by omega)).mono ?_);rintro e w3 ⟨aR,cR,aW,cW,aX,cX,aG,cG,aH,cH,rfl,hP,hr,hf⟩;have hsp:w1.heap.size<w3.heap.size:=hr.pl;have bb:=boxed w3 (.cells (bU P aR cR aW cW aX cX aG cG aH cH) 32);have B4:=af (Gr.step ((Gr.step B2.out (boxed w1 _)).trans (hf.below (m:=w.heap.size) (fun x hx=>by omega) (by rw[World.size_alloc];omega))) bb);have Y4:=af ((bb.block _ (by omega)).trans ((hf.block _ (by rw[World.size_alloc];omega) (by omega)).trans (((boxed w1 _).block _ hs1).trans Y2.out)));have P4:=af (hP.went bb);obtain⟨ar,cr,bW,_⟩:=(hr.went bb).box;have x0:=aF bW (k:=0) (by simp);have x1:=aF bW (k:=1) (by simp);have Z4:=af (nJ (P:=P) (aR:=aR) (cR:=cR) (aW:=aW) (cW:=cW) (aX:=aX) (cX:=cX) (aG:=aG) (cG:=cG) (aH:=aH) (cH:=cH) w3 32);simp only[List.getElem_toArray,List.getElem_cons_zero,List.getElem_cons_succ]at x0 x1;clear hr hf hP bb bW;unfold bU at*;obtain⟨y0,y1,y2,y3,y4,y5,y6,gz⟩:=oU Y4.out)
   |fail)
  all_goals
   have EE:=af (yt Y4.out (.slice none 0 0) (.int .i64 0) (.int .i64 0) (.slice none 0 0) (.slice none 0 0) (.slice none 0 0) (.slice none 0 0));have E2:=af (NO.out (cK (w3.alloc (.cells #[.slice aR P.rules.length cR,.int .i64 P.terms,.int .i64 P.ah,.slice aW P.row.length cW,.slice aX P.rows.length cX,.slice aG P.bj.length cG,.slice aH P.aj.length cH] 32)) w.heap.size (.slice none 0 0) (.int .i64 0) (.int .i64 0) (.slice none 0 0) (.slice none 0 0) (.slice none 0 0) (.slice none 0 0)) (wA B4.out (Nat.le_refl _) _ _ _ _ _ _ _));clear y0 y1 y2 y3 y4 y5 y6 gz;change bodyPost _ _ _ _ _ (cK (w3.alloc (.cells #[.slice aR P.rules.length cR,.int .i64 P.terms,.int .i64 P.ah,.slice aW P.row.length cW,.slice aX P.rows.length cX,.slice aG P.bj.length cG,.slice aH P.aj.length cH] 32)) w.heap.size (.slice none 0 0) (.int .i64 0) (.int .i64 0) (.slice none 0 0) (.slice none 0 0) (.slice none 0 0) (.slice none 0 0));obtain⟨e0,e1,e2,e3,e4,e5,e6⟩:=EE.out;generalize cK (w3.alloc (.cells #[.slice aR P.rules.length cR,.int .i64 P.terms,.int .i64 P.ah,.slice aW P.row.length cW,.slice aX P.rows.length cX,.slice aG P.bj.length cG,.slice aH P.aj.length cH] 32)) w.heap.size (.slice none 0 0) (.int .i64 0) (.int .i64 0) (.slice none 0 0) (.slice none 0 0) (.slice none 0 0) (.slice none 0 0)=wE at*;exact bodyPost_ret (v:=.tuple #[.agg #[.slice none 0 0,.int .i64 0,.int .i64 0,.slice none 0 0,.slice none 0 0,.slice none 0 0,.slice none 0 0],.int .i64 4]) (by simp[results,Tryz.results19,go_sem,e0,e1,e2,e3,e4,e5,e6]) rfl E2.out
theorem of_B{b o c:Nat}{L:List Int}{w:World}(h:dS (some ⟨b,o,none⟩) c L w)(h1:jk L=0){P:Pd}{l1:List Int}{f1:Bool}(hq:table (L.drop 3,false)=(P,(l1,f1)))(hf:f1=false)(hl:l1≠[]):Calls Tryz.prog 19 #[.slice (some ⟨b,o,none⟩) L.length c] w (nU L w):=by
  have B1:=boxed w (.cells dH 32);have HE:=af (DT (h.went B1));have Y1:=af (gJ w (.cells dH 32));have BB:=af B1;rw[h1]at HE;have h3:=Ek h1;have hcap:=h.cap;have h3':¬L.length<3:=by omega
  have JK:(3:Int)<=(L.length:Int):=by omega
  have TA:=af (fun w1 (hb:Below w.heap.size w w1) o' c' (ho:0<L.length-3->o'=o+3) (hc:L.length-3<=c')=>Hb (Ij (T:=93) (h.went hb) h3 (o':=o') (c':=c') ho hc));rw[hq]at TA;unfold zZ at TA;dsimp only at TA;have kP:=(IC.ok (L.drop 3,false) (fun x hx=>h.j0 x (List.mem_of_mem_drop hx))).1;rw[hq]at kP;have y8:=af kP;have RI:=af (fun aR cR aW cW aX cX aG cG aH cH w1 (D:dX P aR cR aW cW aX cX aG cG aH cH w1)=>D4 P aR cR aW cW aX cX aG cG aH cH w1 D kP.sm);have NO:=af (fun(w':World) (hb:Below w.heap.size w w')=>H8 (XU h1 hq hf (.inl hl)) hb);subst hf;have hl0:0<l1.length:=List.length_pos_iff.2 hl;have iJ:(0:Int)<(l1.length:Int):=by omega
  clear hl;clear h kP hq;unfold dH bU at*;clear BB;have BB:=af B1;go_enter Tryz.func19,Tryz.ntmps19
  go_wp2_with (first
   |(go_at_call 55;refine(HE.out).mono ?_;rintro e w1 ⟨rfl,hb⟩;have B2:=af (Gr.step BB.out hb);have Y2:=af ((hb.block _ (Array.getElem?_eq_some_iff.1 Y1.out).1).trans Y1.out);have hs1:w.heap.size<w1.heap.size:=(Array.getElem?_eq_some_iff.1 Y2.out).1;clear hb)
   |(go_at_call 56;(with_reducible refine(TA.out w1 B2.out _ _ (by omega) (by omega)).mono ?_);rintro e w3 ⟨aR,cR,aW,cW,aX,cX,aG,cG,aH,cH,rfl,hP,hr,hf⟩;have hsp:w1.heap.size<w3.heap.size:=hr.pl;have bb:=boxed w3 (.cells (bU P aR cR aW cW aX cX aG cG aH cH) 32);have B4:=af (Gr.step ((Gr.step B2.out (boxed w1 _)).trans (hf.below (m:=w.heap.size) (fun x hx=>by omega) (by rw[World.size_alloc];omega))) bb);have Y4:=af ((bb.block _ (by omega)).trans ((hf.block _ (by rw[World.size_alloc];omega) (by omega)).trans (((boxed w1 _).block _ hs1).trans Y2.out)));have P4:=af (hP.went bb);obtain⟨ar,cr,bW,_⟩:=(hr.went bb).box;have x0:=aF bW (k:=0) (by simp);have x1:=aF bW (k:=1) (by simp);have Z4:=af (nJ (P:=P) (aR:=aR) (cR:=cR) (aW:=aW) (cW:=cW) (aX:=aX) (cX:=cX) (aG:=aG) (cG:=cG) (aH:=aH) (cH:=cH) w3 32);simp only[List.getElem_toArray,List.getElem_cons_zero,List.getElem_cons_succ]at x0 x1;clear hr hf hP bb bW;unfold bU at*;obtain⟨y0,y1,y2,y3,y4,y5,y6,gz⟩:=oU Y4.out)
   |fail)
  all_goals
   have EE:=af (yt Y4.out (.slice none 0 0) (.int .i64 0) (.int .i64 0) (.slice none 0 0) (.slice none 0 0) (.slice none 0 0) (.slice none 0 0));have E2:=af (NO.out (cK (w3.alloc (.cells #[.slice aR P.rules.length cR,.int .i64 P.terms,.int .i64 P.ah,.slice aW P.row.length cW,.slice aX P.rows.length cX,.slice aG P.bj.length cG,.slice aH P.aj.length cH] 32)) w.heap.size (.slice none 0 0) (.int .i64 0) (.int .i64 0) (.slice none 0 0) (.slice none 0 0) (.slice none 0 0) (.slice none 0 0)) (wA B4.out (Nat.le_refl _) _ _ _ _ _ _ _));clear y0 y1 y2 y3 y4 y5 y6 gz;change bodyPost _ _ _ _ _ (cK (w3.alloc (.cells #[.slice aR P.rules.length cR,.int .i64 P.terms,.int .i64 P.ah,.slice aW P.row.length cW,.slice aX P.rows.length cX,.slice aG P.bj.length cG,.slice aH P.aj.length cH] 32)) w.heap.size (.slice none 0 0) (.int .i64 0) (.int .i64 0) (.slice none 0 0) (.slice none 0 0) (.slice none 0 0) (.slice none 0 0));obtain⟨e0,e1,e2,e3,e4,e5,e6⟩:=EE.out;generalize cK (w3.alloc (.cells #[.slice aR P.rules.length cR,.int .i64 P.terms,.int .i64 P.ah,.slice aW P.row.length cW,.slice aX P.rows.length cX,.slice aG P.bj.length cG,.slice aH P.aj.length cH] 32)) w.heap.size (.slice none 0 0) (.int .i64 0) (.int .i64 0) (.slice none 0 0) (.slice none 0 0) (.slice none 0 0) (.slice none 0 0)=wE at*;exact bodyPost_ret (v:=.tuple #[.agg #[.slice none 0 0,.int .i64 0,.int .i64 0,.slice none 0 0,.slice none 0 0,.slice none 0 0,.slice none 0 0],.int .i64 10]) (by simp[results,Tryz.results19,go_sem,e0,e1,e2,e3,e4,e5,e6]) rfl E2.out
theorem of_C{b o c:Nat}{L:List Int}{w:World}(h:dS (some ⟨b,o,none⟩) c L w)(h1:jk L=0){P:Pd}{l1:List Int}{f1:Bool}(hq:table (L.drop 3,false)=(P,(l1,f1)))(hf:f1=false)(hl:l1=[])(hr:jQ P=false):Calls Tryz.prog 19 #[.slice (some ⟨b,o,none⟩) L.length c] w (nU L w):=by
  have B1:=boxed w (.cells dH 32);have HE:=af (DT (h.went B1));have Y1:=af (gJ w (.cells dH 32));have BB:=af B1;rw[h1]at HE;have h3:=Ek h1;have hcap:=h.cap;have h3':¬L.length<3:=by omega
  have JK:(3:Int)<=(L.length:Int):=by omega
  have TA:=af (fun w1 (hb:Below w.heap.size w w1) o' c' (ho:0<L.length-3->o'=o+3) (hc:L.length-3<=c')=>Hb (Ij (T:=93) (h.went hb) h3 (o':=o') (c':=c') ho hc));rw[hq]at TA;unfold zZ at TA;dsimp only at TA;have kP:=(IC.ok (L.drop 3,false) (fun x hx=>h.j0 x (List.mem_of_mem_drop hx))).1;rw[hq]at kP;have y8:=af kP;have RI:=af (fun aR cR aW cW aX cX aG cG aH cH w1 (D:dX P aR cR aW cW aX cX aG cG aH cH w1)=>D4 P aR cR aW cW aX cX aG cG aH cH w1 D kP.sm);have NO:=af (fun(w':World) (hb:Below w.heap.size w w')=>H8 (XU h1 hq hf (.inr hr)) hb);subst hf hl;rw[hr]at RI;clear h kP hq;unfold dH bU at*;clear BB;have BB:=af B1;go_enter Tryz.func19,Tryz.ntmps19
  go_wp2_with (first
   |(go_at_call 55;refine(HE.out).mono ?_;rintro e w1 ⟨rfl,hb⟩;have B2:=af (Gr.step BB.out hb);have Y2:=af ((hb.block _ (Array.getElem?_eq_some_iff.1 Y1.out).1).trans Y1.out);have hs1:w.heap.size<w1.heap.size:=(Array.getElem?_eq_some_iff.1 Y2.out).1;clear hb)
   |(go_at_call 56;(with_reducible refine(TA.out w1 B2.out _ _ (by omega) (by omega)).mono ?_);rintro e w3 ⟨aR,cR,aW,cW,aX,cX,aG,cG,aH,cH,rfl,hP,hr,hf⟩;have hsp:w1.heap.size<w3.heap.size:=hr.pl;have bb:=boxed w3 (.cells (bU P aR cR aW cW aX cX aG cG aH cH) 32);have B4:=af (Gr.step ((Gr.step B2.out (boxed w1 _)).trans (hf.below (m:=w.heap.size) (fun x hx=>by omega) (by rw[World.size_alloc];omega))) bb);have Y4:=af ((bb.block _ (by omega)).trans ((hf.block _ (by rw[World.size_alloc];omega) (by omega)).trans (((boxed w1 _).block _ hs1).trans Y2.out)));have P4:=af (hP.went bb);obtain⟨ar,cr,bW,_⟩:=(hr.went bb).box;have x0:=aF bW (k:=0) (by simp);have x1:=aF bW (k:=1) (by simp);have Z4:=af (nJ (P:=P) (aR:=aR) (cR:=cR) (aW:=aW) (cW:=cW) (aX:=aX) (cX:=cX) (aG:=aG) (cG:=cG) (aH:=aH) (cH:=cH) w3 32);simp only[List.getElem_toArray,List.getElem_cons_zero,List.getElem_cons_succ]at x0 x1;clear hr hf hP bb bW;unfold bU at*)
   |(go_at_call 12;(with_reducible refine(RI.out _ _ _ _ _ _ _ _ _ _ _ (P4.out.pat y8.out)).mono ?_);rintro e w5 ⟨rfl,fg⟩;have B5:=af (Gr.step B4.out fg);have Y5:=af ((fg.block _ (Array.getElem?_eq_some_iff.1 Y4.out).1).trans Y4.out);have P5:=af (P4.out.went fg);obtain⟨v0,v1,v2,v3,v4,v5,v6⟩:=Z4.out.went fg;obtain⟨y0,y1,y2,y3,y4,y5,y6,gz⟩:=oU Y5.out;clear fg)
   |fail)
  all_goals
   have EE:=af (yt Y5.out (.slice none 0 0) (.int .i64 0) (.int .i64 0) (.slice none 0 0) (.slice none 0 0) (.slice none 0 0) (.slice none 0 0));have E2:=af (NO.out (cK w5 w.heap.size (.slice none 0 0) (.int .i64 0) (.int .i64 0) (.slice none 0 0) (.slice none 0 0) (.slice none 0 0) (.slice none 0 0)) (wA B5.out (Nat.le_refl _) _ _ _ _ _ _ _));clear y0 y1 y2 y3 y4 y5 y6 gz;change bodyPost _ _ _ _ _ (cK w5 w.heap.size (.slice none 0 0) (.int .i64 0) (.int .i64 0) (.slice none 0 0) (.slice none 0 0) (.slice none 0 0) (.slice none 0 0));obtain⟨e0,e1,e2,e3,e4,e5,e6⟩:=EE.out;generalize cK w5 w.heap.size (.slice none 0 0) (.int .i64 0) (.int .i64 0) (.slice none 0 0) (.slice none 0 0) (.slice none 0 0) (.slice none 0 0)=wE at*;exact bodyPost_ret (v:=.tuple #[.agg #[.slice none 0 0,.int .i64 0,.int .i64 0,.slice none 0 0,.slice none 0 0,.slice none 0 0,.slice none 0 0],.int .i64 10]) (by simp[results,Tryz.results19,go_sem,e0,e1,e2,e3,e4,e5,e6]) rfl E2.out
theorem Lv{b o c:Nat}{L:List Int}{w:World}(h:dS (some ⟨b,o,none⟩) c L w)(h1:jk L=0){P:Pd}{l1:List Int}{f1:Bool}(hq:table (L.drop 3,false)=(P,(l1,f1)))(hf:f1=false)(hl:l1=[])(hr:jQ P=true):Calls Tryz.prog 19 #[.slice (some ⟨b,o,none⟩) L.length c] w (nU L w):=by
  have B1:=boxed w (.cells dH 32);have HE:=af (DT (h.went B1));have Y1:=af (gJ w (.cells dH 32));have BB:=af B1;rw[h1]at HE;have h3:=Ek h1;have hcap:=h.cap;have h3':¬L.length<3:=by omega
  have JK:(3:Int)<=(L.length:Int):=by omega
  have TA:=af (fun w1 (hb:Below w.heap.size w w1) o' c' (ho:0<L.length-3->o'=o+3) (hc:L.length-3<=c')=>Hb (Ij (T:=93) (h.went hb) h3 (o':=o') (c':=c') ho hc));rw[hq]at TA;unfold zZ at TA;dsimp only at TA;have kP:=(IC.ok (L.drop 3,false) (fun x hx=>h.j0 x (List.mem_of_mem_drop hx))).1;rw[hq]at kP;have y8:=af kP;have RI:=af (fun aR cR aW cW aX cX aG cG aH cH w1 (D:dX P aR cR aW cW aX cX aG cG aH cH w1)=>D4 P aR cR aW cW aX cX aG cG aH cH w1 D kP.sm)
  have GOOD:=af (fun(w':World) aR cR aW cW aX cX aG cG aH cH (hb:Below w.heap.size w w') (hp:dX P aR cR aW cW aX cX aG cG aH cH w')=>(show nU L w (.returned (.tuple #[.agg (bU P aR cR aW cW aX cX aG cG aH cH),.int .i64 0])) w' from by
   rw[nU,zTw h1 hq hf hl hr]
   exact⟨aR,cR,aW,cW,aX,cX,aG,cG,aH,cH,rfl,hp,hb⟩))
  subst hf hl;rw[hr]at RI;clear h kP hq;unfold dH bU at*;clear BB;have BB:=af B1;go_enter Tryz.func19,Tryz.ntmps19
  go_wp2_with (first
   |(go_at_call 55;refine(HE.out).mono ?_;rintro e w1 ⟨rfl,hb⟩;have B2:=af (Gr.step BB.out hb);have Y2:=af ((hb.block _ (Array.getElem?_eq_some_iff.1 Y1.out).1).trans Y1.out);have hs1:w.heap.size<w1.heap.size:=(Array.getElem?_eq_some_iff.1 Y2.out).1;clear hb)
   |(go_at_call 56;(with_reducible refine(TA.out w1 B2.out _ _ (by omega) (by omega)).mono ?_);rintro e w3 ⟨aR,cR,aW,cW,aX,cX,aG,cG,aH,cH,rfl,hP,hr,hf⟩;have hsp:w1.heap.size<w3.heap.size:=hr.pl;have bb:=boxed w3 (.cells (bU P aR cR aW cW aX cX aG cG aH cH) 32);have B4:=af (Gr.step ((Gr.step B2.out (boxed w1 _)).trans (hf.below (m:=w.heap.size) (fun x hx=>by omega) (by rw[World.size_alloc];omega))) bb);have Y4:=af ((bb.block _ (by omega)).trans ((hf.block _ (by rw[World.size_alloc];omega) (by omega)).trans (((boxed w1 _).block _ hs1).trans Y2.out)));have P4:=af (hP.went bb);obtain⟨ar,cr,bW,_⟩:=(hr.went bb).box;have x0:=aF bW (k:=0) (by simp);have x1:=aF bW (k:=1) (by simp);have Z4:=af (nJ (P:=P) (aR:=aR) (cR:=cR) (aW:=aW) (cW:=cW) (aX:=aX) (cX:=cX) (aG:=aG) (cG:=cG) (aH:=aH) (cH:=cH) w3 32);simp only[List.getElem_toArray,List.getElem_cons_zero,List.getElem_cons_succ]at x0 x1;clear hr hf hP bb bW;unfold bU at*)
   |(go_at_call 12;(with_reducible refine(RI.out _ _ _ _ _ _ _ _ _ _ _ (P4.out.pat y8.out)).mono ?_);rintro e w5 ⟨rfl,fg⟩;have B5:=af (Gr.step B4.out fg);have Y5:=af ((fg.block _ (Array.getElem?_eq_some_iff.1 Y4.out).1).trans Y4.out);have P5:=af (P4.out.went fg);obtain⟨v0,v1,v2,v3,v4,v5,v6⟩:=Z4.out.went fg;obtain⟨y0,y1,y2,y3,y4,y5,y6,gz⟩:=oU Y5.out;clear fg)
   |fail)
  all_goals
   have EE:=af (yt Y5.out (.slice aR P.rules.length cR) (.int .i64 P.terms) (.int .i64 P.ah) (.slice aW P.row.length cW) (.slice aX P.rows.length cX) (.slice aG P.bj.length cG) (.slice aH P.aj.length cH));have E2:=af (GOOD.out (cK w5 w.heap.size (.slice aR P.rules.length cR) (.int .i64 P.terms) (.int .i64 P.ah) (.slice aW P.row.length cW) (.slice aX P.rows.length cX) (.slice aG P.bj.length cG) (.slice aH P.aj.length cH)) _ _ _ _ _ _ _ _ _ _ (wA B5.out (Nat.le_refl _) _ _ _ _ _ _ _) ((P5.out.box ⟨_,_,Y5.out⟩ (EC w5 w.heap.size (.slice aR P.rules.length cR) (.int .i64 P.terms) (.int .i64 P.ah) (.slice aW P.row.length cW) (.slice aX P.rows.length cX) (.slice aG P.bj.length cG) (.slice aH P.aj.length cH))).pat y8.out));clear y0 y1 y2 y3 y4 y5 y6 gz;change bodyPost _ _ _ _ _ (cK w5 w.heap.size (.slice aR P.rules.length cR) (.int .i64 P.terms) (.int .i64 P.ah) (.slice aW P.row.length cW) (.slice aX P.rows.length cX) (.slice aG P.bj.length cG) (.slice aH P.aj.length cH));obtain⟨e0,e1,e2,e3,e4,e5,e6⟩:=EE.out;generalize cK w5 w.heap.size (.slice aR P.rules.length cR) (.int .i64 P.terms) (.int .i64 P.ah) (.slice aW P.row.length cW) (.slice aX P.rows.length cX) (.slice aG P.bj.length cG) (.slice aH P.aj.length cH)=wE at*;exact bodyPost_ret (v:=.tuple #[.agg #[.slice aR P.rules.length cR,.int .i64 P.terms,.int .i64 P.ah,.slice aW P.row.length cW,.slice aX P.rows.length cX,.slice aG P.bj.length cG,.slice aH P.aj.length cH],.int .i64 0]) (by simp[results,Tryz.results19,go_sem,e0,e1,e2,e3,e4,e5,e6]) rfl E2.out
end Ts
namespace Ac
open Gr (bI checkN)
open Lk (oV)
open Au
open Go.Proofs.YtegeamggbglneaaGreatDoor.Sep
theorem NG{G}{q}:uu G q≠nC:=fun e=>by
 have h:=congrArg Fy.rules e;simp[uu,nC]at h
theorem Xe{G}{er}(h:TabIs G er nC):(bE G er []/\er≠0)\/∃q,checkN G=0/\Done G q/\bE G 0 (states q)/\jO G q≠[]/\er=12:=by
 generalize hT:nC=T at h;cases h with
 |bad h1 h2=>exact .inl ⟨h1,h2⟩
 |clash h1 h2 h3 h4 h5=>exact .inr ⟨_,h1,h2,h4,h5,rfl⟩
 |all h1 h2 h3 h4 h5=>exact absurd hT.symm NG
theorem Zh{w}{bt bn br b1 b2}(t0:w.cell? ⟨bt,0,none⟩=some (.string ⟨#[65]⟩))(t1:w.cell? ⟨bt,1,none⟩=some (.string ⟨#[66]⟩))(n0:w.cell? ⟨bn,0,none⟩=some (.string ⟨#[115]⟩))
  (r0:w.cell? ⟨br,0,none⟩=some (.int .i64 3)) (r1:w.cell? ⟨br,1,none⟩=some (.slice (some ⟨b1,0,none⟩) 2 2)) (r2:w.cell? ⟨br,2,none⟩=some (.int .i64 3)) (r3:w.cell? ⟨br,3,none⟩=some (.slice (some ⟨b2,0,none⟩) 1 1))
  (c0:w.cell? ⟨b1,0,none⟩=some (.int .i64 1)) (c1:w.cell? ⟨b1,1,none⟩=some (.int .i64 3)) (d0:w.cell? ⟨b2,0,none⟩=some (.int .i64 2)):
  bI ⟨some ⟨bt,0,none⟩,2,some ⟨bn,0,none⟩,1,some ⟨br,0,none⟩,2⟩ GB w:=by
 refine⟨fun i hi=>?_,fun i hi=>?_,fun i hi=>?_,by simp[GB],by simp[GB],by simp[GB],by simp[GB],by simp[GB],⟨?_,?_,oV _ (by decide) (by decide),?_,?_⟩⟩
 ·have h2:i<2:=hi;refine⟨bt,0,rfl,?_⟩;have:i=0\/i=1:=by omega
  rcases this with rfl|rfl
  ·exact t0
  ·exact t1
 ·have h2:i<1:=hi;refine⟨bn,0,rfl,?_⟩;obtain rfl:i=0:=by omega
  exact n0
 ·have h2:i<2:=hi;have:i=0\/i=1:=by omega
  rcases this with rfl|rfl
  ·refine⟨br,0,some ⟨b1,0,none⟩,2,rfl,r0,r1,fun j hj=>?_,by simp[GB],by simp[GB]⟩;have h3:j<2:=hj;refine⟨b1,0,rfl,?_⟩;have:j=0\/j=1:=by omega
   rcases this with rfl|rfl
   ·exact c0
   ·exact c1
  ·refine⟨br,0,some ⟨b2,0,none⟩,1,rfl,r2,r3,fun j hj=>?_,by simp[GB],by simp[GB]⟩;have h3:j<1:=hj;obtain rfl:j=0:=by omega
   exact⟨b2,0,rfl,d0⟩
 ·intro s hs;simp only[GB,List.mem_cons,List.not_mem_nil,or_false]at hs;rcases hs with rfl|rfl<;>simp[ByteArray.size]
 ·intro s hs;simp only[GB,List.mem_cons,List.not_mem_nil,or_false]at hs;subst hs;simp[ByteArray.size]
 ·intro r hr;simp only[GB,List.mem_cons,List.not_mem_nil,or_false]at hr;rcases hr with rfl|rfl<;>exact oV _ (by decide) (by decide)
 ·intro r hr x hx;simp only[GB,List.mem_cons,List.not_mem_nil,or_false]at hr;rcases hr with rfl|rfl
  ·simp only[List.mem_cons,List.not_mem_nil,or_false]at hx;rcases hx with rfl|rfl<;>exact oV _ (by decide) (by decide)
  ·simp only[List.mem_cons,List.not_mem_nil,or_false]at hx;subst hx;exact oV _ (by decide) (by decide)
end Ac
namespace Pk
open Gr (ai Fits ax checkN top)
open Au (Whole leads Done)
open Ac (xo cm iC Oj)
open Im (bG)
noncomputable def rK(G:ai)(q:Whole):List (List (Int×Int)):=(List.range q.1.length).map fun i=>(List.range (G.terms.length+1)).map fun t=>cm G q i t
def yR(G:ai)(q:Whole):List (List Int):=(List.range q.1.length).map fun i=>(List.range G.ah.length).map fun k=>leads (q.2.getD i []) ((G.terms.length+1+k:Nat):Int)
noncomputable def gK(G:ai)(q:Whole):Tb:=⟨(List.range (G.rules.length+1)).map fun j:Nat=>ax G (j:Int),(G.terms.length:Int),(G.ah.length:Int),rK G q,yR G q⟩
section
variable {G:ai} {q:Whole}
theorem sB(G)(q):(gK G q).rules.length=G.rules.length+1/\(gK G q).acts.length=q.1.length/\(gK G q).goto.length=q.1.length:=by
 simp[gK,rK,yR]
theorem Ni{r}(h:r∈rK G q):∃i,i<q.1.length/\r=(List.range (G.terms.length+1)).map fun t=>cm G q i t:=by
 obtain⟨i,hi,e⟩:=List.mem_map.1 h;exact⟨i,List.mem_range.1 hi,e.symm⟩
theorem Nb{r}(h:r∈yR G q):∃i,i<q.1.length/\r=(List.range G.ah.length).map fun k=>leads (q.2.getD i []) ((G.terms.length+1+k:Nat):Int):=by
 obtain⟨i,hi,e⟩:=List.mem_map.1 h;exact⟨i,List.mem_range.1 hi,e.symm⟩
theorem Hr{r}(h:r∈(gK G q).rules):∃j,j<=G.rules.length/\r=ax G (j:Int):=by
 obtain⟨i,hi,e⟩:=List.mem_map.1 h;exact⟨i,by have:=List.mem_range.1 hi;omega,e.symm⟩
theorem D8(hv:checkN G=0){j}(hj:j<=G.rules.length):(0<=(ax G (j:Int)).1/\(ax G (j:Int)).1<=(top G:Int))/\(ax G (j:Int)).2.length<=8/\∀x∈(ax G (j:Int)).2,0<=x/\x<=(top G:Int):=by
 have S:=Fi.jq hv;refine⟨?_,?_⟩
 ·rcases Lk.uw hv hj with⟨_,e⟩|⟨_,h1,h2⟩
  ·rw[e];omega
  ·omega
 ·by_cases e:j=G.rules.length
  ·subst e;rw[(Gr.nK G).2];refine⟨by simp,fun x hx=>?_⟩;rw[List.mem_singleton]at hx;subst hx;have:=Gr.jN.1 (Fi.Vy S.known);unfold top;omega
  ·have hl:j<G.rules.length:=by omega
   rw[(Gr.nN hl).2];have hm:=List.getElem_mem hl;refine⟨S.w _ hm,fun x hx=>?_⟩;have:=Fi.WQ S.known hm hx;omega
theorem DU(hv:checkN G=0):top G<=240:=by
 have S:=Fi.jq hv;have h1:=S.t;have h2:=S.n;unfold top;omega
theorem zUT(hv:checkN G=0)(D:Done G q)(hl:q.1.length<=2000):xm (gK G q):=by
 have S:=Fi.jq hv;have ht:=DU hv;have h1:=S.t;have h2:=S.n;have h3:=S.r;refine⟨?_,?_,fun r hr=>?_,fun r hr x hx=>?_,fun r hr x hx=>?_,fun r hr x hx=>?_⟩
 ·show Fits (G.terms.length:Int);unfold Fits;omega
 ·show Fits (G.ah.length:Int);unfold Fits;omega
 ·obtain⟨j,hj,rfl⟩:=Hr hr;have:=(D8 hv hj).1;unfold Fits;omega
 ·obtain⟨j,hj,rfl⟩:=Hr hr;have:=(D8 hv hj).2.2 x hx;unfold Fits;omega
 ·obtain⟨i,hi,rfl⟩:=Ni hr;obtain⟨t,_,rfl⟩:=List.mem_map.1 hx;unfold Fits;rcases Ac.U4 D hi t with e|⟨n,hn,e⟩|e|⟨n,hn,e⟩<;>rw[e]<;>dsimp only<;>omega
 ·obtain⟨i,hi,rfl⟩:=Nb hr;obtain⟨k,_,rfl⟩:=List.mem_map.1 hx;unfold Fits;rcases Ac.Mw D hi ((G.terms.length+1+k:Nat):Int)with e|⟨n,e,hn,_⟩<;>rw[e]<;>omega
theorem Ip(hv:checkN G=0)(hl:q.1.length<=2000):lF (gK G q):=by
 have S:=Fi.jq hv;have h1:=S.t;have h2:=S.n;have h3:=S.r;obtain⟨e1,e2,e3⟩:=sB G q;refine⟨by omega,by omega,by omega,fun r hr=>?_,fun r hr=>?_,fun r hr=>?_⟩
 ·obtain⟨j,hj,rfl⟩:=Hr hr;have:=(D8 hv hj).2.1;omega
 ·obtain⟨i,hi,rfl⟩:=Ni hr;rw[List.length_map,List.length_range];omega
 ·obtain⟨i,hi,rfl⟩:=Nb hr;rw[List.length_map,List.length_range];omega
theorem zPD(hv:checkN G=0)(D:Done G q)(h0:0<q.1.length):bo (gK G q)=true:=by
 obtain⟨e1,e2,e3⟩:=sB G q;have S:=Fi.jq hv;simp only[bo,sO,pZ,p9,oG,Bool.and_eq_true,decide_eq_true_eq,List.all_eq_true,mP,fV,e1,e2,e3];refine⟨⟨Nat.succ_pos _,h0,trivial,Int.natCast_nonneg _,Int.natCast_nonneg _⟩,fun r hr=>?_,fun r hr=>?_,fun r hr=>?_⟩
 ·obtain⟨i,hi,rfl⟩:=Ni hr;refine⟨?_,fun x hx=>?_⟩
  ·rw[List.length_map,List.length_range];show _=(G.terms.length:Int);omega
  ·obtain⟨t,_,rfl⟩:=List.mem_map.1 hx;unfold kQ;rw[decide_eq_true_eq];rcases Ac.U4 D hi t with e|⟨n,hn,e⟩|e|⟨n,hn,e⟩<;>rw[e]<;>dsimp only<;>omega
 ·obtain⟨i,hi,rfl⟩:=Nb hr;refine⟨?_,fun x hx=>?_⟩
  ·rw[List.length_map,List.length_range]
   rfl
  ·obtain⟨k,_,rfl⟩:=List.mem_map.1 hx;unfold nu;rw[decide_eq_true_eq];rcases Ac.Mw D hi ((G.terms.length+1+k:Nat):Int)with e|⟨n,e,hn,_⟩<;>rw[e]<;>omega
 ·unfold gK at hr;simp only[Nat.add_sub_cancel]at hr;rw[←List.map_take,List.take_range,Nat.min_eq_left (Nat.le_succ _)]at hr;obtain⟨j,hj,rfl⟩:=List.mem_map.1 hr;have hj:=List.mem_range.1 hj;unfold eV;rw[decide_eq_true_eq];show(G.terms.length:Int)<_/\_-(G.terms.length:Int)<=(G.ah.length:Int);rcases Lk.uw hv (Nat.le_of_lt hj)with⟨e,_⟩|⟨_,h1,h2⟩
  ·omega
  ·unfold top at h2;omega
theorem zTb{b o}{X:List (Int×Int)}{w}(h:∀j (hj:j<X.length),w.cell? ⟨b,o+j*2,none⟩=some (.int .i64 X[j].1)/\w.cell? ⟨b,o+j*2+1,none⟩=some (.int .i64 X[j].2)):bG (some ⟨b,o,none⟩) X w:=fun i hi=>by
 have hl:=Im.rC X;refine⟨b,o,rfl,?_⟩;have hj:i / 2<X.length:=by omega
 obtain⟨h0,h1⟩:=h (i / 2) hj;have hr:i % 2=0\/i % 2=1:=by omega
 rcases hr with hr|hr
 ·have g:=Rw.mE Im.ic Im.wG X (i / 2) hj 0 (by omega);have e:i / 2*2+0=i:=by omega
  rw[e,List.getElem?_eq_getElem (by omega)]at g;rw[show o+i=o+i / 2*2 by omega,h0];rw[←Option.some.injEq]at g;exact congrArg some (by simpa[Im.ic]using g.symm)
 ·have g:=Rw.mE Im.ic Im.wG X (i / 2) hj 1 (by omega);have e:i / 2*2+1=i:=by omega
  rw[e,List.getElem?_eq_getElem (by omega)]at g;rw[show o+i=o+i / 2*2+1 by omega,h1];rw[←Option.some.injEq]at g;exact congrArg some (by simpa[Im.ic]using g.symm)
theorem YX{aR aA aG}{cR cA cG}{w}(hv:checkN G=0)(D:Done G q)(hl:q.1.length<=2000)(h:xo G q aR aA aG w)(h1:(gK G q).rules.length<=cR):nW (gK G q) aR cR aA cA aG cG w:=by
 obtain⟨e1,e2,e3⟩:=sB G q;have S:=Fi.jq hv;have s1:=S.t;have s2:=S.n;have s3:=S.r;refine⟨fun i hi=>?_,fun i hi=>?_,fun i hi=>?_,h1,by omega,by omega,by omega,zUT hv D hl⟩
 ·rw[e1]at hi;obtain⟨b,a3,c3,e,p0,p1,p2,_,_⟩:=h.rules i hi;have hr:(gK G q).rules[i]=ax G (i:Int):=by simp[gK]
  rw[hr];have hs:=(D8 hv (j:=i) (by omega)).2.1;refine⟨b,0,a3,c3,e,?_,?_,p2,by omega⟩
  ·rw[Nat.zero_add];exact p0
  ·rw[Nat.zero_add];exact p1
 ·rw[e2]at hi;obtain⟨b,c,e,p0,p1,_,_⟩:=h.acts i hi;have hr:(gK G q).acts[i]=(List.range (G.terms.length+1)).map fun t=>cm G q i t:=by simp[gK,rK]
  rw[hr,List.length_map,List.length_range];refine⟨b,0,_,_,e,by rw[Nat.zero_add];exact p0,?_,Nat.le_refl _,by omega⟩;refine zTb fun j hj=>?_
  rw[List.length_map,List.length_range]at hj;rw[List.getElem_map,List.getElem_range];have q0:=p1.cell (j:=j*2) (by omega);have q1:=p1.cell (j:=j*2+1) (by omega);rw[Oj.1]at q0;rw[Oj.2]at q1;exact⟨by rw[Nat.zero_add];exact q0,by rw[Nat.zero_add];exact q1⟩
 ·rw[e3]at hi;obtain⟨b,c,e,p0,p1,_,_⟩:=h.goto i hi;have hr:(gK G q).goto[i]=(List.range G.ah.length).map fun k=>leads (q.2.getD i []) ((G.terms.length+1+k:Nat):Int):=by simp[gK,yR]
  rw[hr,List.length_map,List.length_range];refine⟨b,0,_,_,e,by rw[Nat.zero_add];exact p0,fun j hj=>?_,Nat.le_refl _,by omega⟩;simp only[List.length_map,List.length_range]at hj;refine⟨c,0,rfl,?_⟩;have q0:=p1.cell hj;rw[Nat.zero_add,q0];simp[iC]
theorem Yb{T}(h:lF T):uT (dh T):=by
 have hA:(df T).length=T.acts.length:=by simp[df]
 have hG:(dC T).length=T.goto.length:=by simp[dC]
 have k1:=sk (df T);have k2:=sk (dC T);have k3:=h.al;have k4:=h.gl;refine⟨h.rl,?_,?_,?_,?_,h.rr,fun r hr=>?_,fun r hr=>?_⟩
 ·show(idxs (df T)).length<= _;rw[jM];omega
 ·show(idxs (dC T)).length<= _;rw[jM];omega
 ·show(dt (df T)).length<= _;omega
 ·show(dt (dC T)).length<= _;omega
 ·have hr:r∈dt (df T):=hr;rw[wI]at hr;obtain⟨a,ha,rfl⟩:=List.mem_map.1 hr;rw[List.length_map];exact h.ar a ha
 ·have hr:r∈dt (dC T):=hr;rw[wI]at hr;obtain⟨a,ha,rfl⟩:=List.mem_map.1 hr;rw[List.length_map];exact h.gr a ha
end
end Pk
namespace Pk
open Im
open Au
open Ac (cm bh lN iu iB eB yF l7 Ox)
open Lk (La uI aV qB Hz Zi)
theorem WO(D:Done GB qB){i k t}(ht:0<t):eB GB qB i k t=false:=by
 cases e:eB GB qB i k t with
 |false=>rfl
 |true=>
  have:=Hz D (yF.1 e);omega
theorem pV(D:Done GB qB){i k t}(hi:i<5)(hk:aV GB k∉l7 i):eB GB qB i k t=false:=by
 cases e:eB GB qB i k t with
 |false=>rfl
 |true=>exact absurd (((Ox hi).2 _).2 (uI D zO (yF.1 e)).2) hk
theorem Wd(D:Done GB qB){i t}(ht:0<t):cm GB qB i t=(lN qB i t).headD (0,0):=by
 have h1:iu GB qB i t=[]:=by
  unfold iu;rw[WO D ht]
  rfl
 have h2:iB GB qB i t=[]:=by
  unfold iB;rw[show GB.rules.length=2 from rfl,show List.range 2=[0,1]from rfl];simp only[List.filter_cons,WO D ht,List.filter_nil]
  rfl
 unfold cm bh;rw[h1,h2,List.append_nil,List.append_nil]
theorem Eu{i}{b0 b1 b2}(r0:eB GB qB i 0 0=b0)(r1:eB GB qB i 1 0=b1)(r2:eB GB qB i 2 0=b2):cm GB qB i 0=if b2 then(3,0)else if b0 then(2,0)else if b1 then(2,1)else(0,0):=by
 have hs:lN qB i 0=[]:=rfl
 have ha:iu GB qB i 0=if b2 then[(3,0)]else[]:=by
  unfold iu;rw[show GB.rules.length=2 from rfl,r2]
 have hr:iB GB qB i 0=(if b0 then[(2,0)]else[])++(if b1 then[(2,1)]else[]):=by
  unfold iB;rw[show GB.rules.length=2 from rfl,show List.range 2=[0,1]from rfl];simp only[List.filter_cons,r0,r1,List.filter_nil];cases b0<;>cases b1<;>rfl
 unfold cm bh;rw[hs,ha,hr];cases b0<;>cases b1<;>cases b2<;>rfl
theorem zU4:(aV GB 0∉l7 0/\aV GB 1∉l7 0/\aV GB 2∉l7 0)/\(aV GB 0∉l7 1/\aV GB 1∉l7 1/\aV GB 2∉l7 1)/\(aV GB 0∉l7 2/\aV GB 2∉l7 2)/\(aV GB 0∉l7 3/\aV GB 1∉l7 3)/\(aV GB 1∉l7 4/\aV GB 2∉l7 4):=by
 refine⟨⟨?_,?_,?_⟩,⟨?_,?_,?_⟩,⟨?_,?_⟩,⟨?_,?_⟩,?_,?_⟩<;>decide+kernel
theorem zNk:La GB qB 3 (2,1) 0:=.move (x:=(2,0)) .start (by decide+kernel) (by decide+kernel)
theorem zVj(D:Done GB qB):∃x:Int×Int,(x=(0,0)\/x=(2,0))/\rK GB qB=[[(0,0),(1,1),(1,2)],[(0,0),(1,1),(1,2)],[(2,1),(0,0),(0,0)],[(3,0),(0,0),(0,0)],[x,(0,0),(0,0)]]:=by
 obtain⟨⟨a0,a1,a2⟩,⟨b0,b1,b2⟩,⟨c0,c2⟩,⟨d0,d1⟩,e1,e2⟩:=zU4;have f0:=Eu (pV D (t:=0) (by decide) a0) (pV D (t:=0) (by decide) a1) (pV D (t:=0) (by decide) a2);have f1:=Eu (pV D (t:=0) (by decide) b0) (pV D (t:=0) (by decide) b1) (pV D (t:=0) (by decide) b2);have r21:eB GB qB 2 1 0=true:=yF.2 (by rw[show aV GB 1=(1,1)by decide+kernel];exact Zi);have f2:=Eu (pV D (t:=0) (by decide) c0) r21 (pV D (t:=0) (by decide) c2);have r32:eB GB qB 3 2 0=true:=yF.2 (by rw[show aV GB 2=(2,1)by decide+kernel];exact zNk);have f3:=Eu (pV D (t:=0) (by decide) d0) (pV D (t:=0) (by decide) d1) r32;have f4:=Eu (i:=4) rfl (pV D (t:=0) (by decide) e1) (pV D (t:=0) (by decide) e2);refine⟨cm GB qB 4 0,?_,?_⟩
 ·rw[f4];cases eB GB qB 4 0 0<;>simp
 ·have hsh:∀i,i<5->∀t,t<3->0<t->(lN qB i t).headD (0,0)=(([[(0,0),(1,1),(1,2)],[(0,0),(1,1),(1,2)],[(2,1),(0,0),(0,0)],[(3,0),(0,0),(0,0)],[(0,0),(0,0),(0,0)]]:List (List (Int×Int))).getD i []).getD t (9,9):=by decide+kernel
  unfold rK;rw[show qB.1.length=5 from rfl,show GB.terms.length+1=3 from rfl,show List.range 5=[0,1,2,3,4]from rfl,show List.range 3=[0,1,2]from rfl];simp only[List.map_cons,List.map_nil];rw[f0,f1,f2,f3];simp only[Wd D (t:=1) (by decide),Wd D (t:=2) (by decide)];rw[hsh 0 (by decide) 1 (by decide) (by decide),hsh 0 (by decide) 2 (by decide) (by decide),hsh 1 (by decide) 1 (by decide) (by decide),hsh 1 (by decide) 2 (by decide) (by decide),hsh 2 (by decide) 1 (by decide) (by decide),hsh 2 (by decide) 2 (by decide) (by decide),hsh 3 (by decide) 1 (by decide) (by decide),hsh 3 (by decide) 2 (by decide) (by decide),hsh 4 (by decide) 1 (by decide) (by decide),hsh 4 (by decide) 2 (by decide) (by decide)]
  rfl
theorem zT5(D:Done GB qB):(dh (gK GB qB)).rows.length=4:=by
 obtain⟨x,hx,e⟩:=zVj D;show(dt (df (gK GB qB))).length=4;have:df (gK GB qB)=(rK GB qB).map fun r=>r.map ia:=rfl
 rw[this,e];rcases hx with rfl|rfl<;>decide+kernel
theorem zVO:(dh (gK GB qB)).row.length=5:=by
 show(idxs (df (gK GB qB))).length=5;rw[jM];unfold df;rw[List.length_map];exact(sB GB qB).2.1
theorem Oa{G}{q}(hv:Gr.checkN G=0)(D:Done G q)(hl:q.1.length<=2000)(h0:0<q.1.length):jD (gK G q)=true:=by
 obtain⟨e1,e2,_⟩:=sB G q;have S:=(Fi.jq hv).r;unfold jD;rw[Bool.and_eq_true,decide_eq_true_eq,e1,e2];exact⟨by omega,zPD hv D h0⟩
structure Alike (T:Tb):Prop where
 act:∀i t,zWg (sS T).1 i t=AH T i t
 goto:∀i s,zVe (sS T).1 i s=wR T i s
 rows:(sS T).1.rows.length<=T.acts.length
 aj:(sS T).1.aj.length<=T.acts.length
 len:T.acts.length<=2000
theorem zVn:lF Dv:=by
 refine⟨by decide,by decide,by decide,fun r hr=>?_,fun r hr=>?_,fun r hr=>?_⟩<;>cases hr
end Pk
namespace Ts
open Pk
open Gr (checkN)
open Au
theorem pF{a}{c}{L}{w}(h:dS a c L w):Calls Tryz.prog 19 #[.slice a L.length c] w (nU L w):=by
 by_cases h1:jk L=0
 ·have h3:=Ek h1;obtain⟨b,o,rfl,_⟩:=h.at_ 0 (by omega)
  obtain⟨P,l1,f1,hq⟩:∃P l1 f1,table (L.drop 3,false)=(P,(l1,f1)):=⟨_,_,_,rfl⟩;cases f1 with
  |true=>exact Lu h h1 hq rfl
  |false=>
   by_cases hl:l1=[]
   ·cases hr:jQ P with
    |true=>exact Lv h h1 hq rfl hl hr
    |false=>exact of_C h h1 hq rfl hl hr
   ·exact of_B h h1 hq rfl hl
 ·exact zVW h h1
theorem zUd{T}(h:Pt T)(S:lF T)(ht:Cd T.terms)(hn:Cd T.ah)(hR:∀r∈T.rules,VR r):VP (dh T):=by
 have hA:(df T).length=T.acts.length:=Uh T;have hG:(dC T).length=T.acts.length:=by rw[Ui];exact h.ga
 have l0:=jM (df T);have l1:=jM (dC T);have p0:=sk (df T);have p1:=sk (dC T);have a1:=h.a1;have r1:=h.r1;have nn:=h.n0;have tt:=h.t0
 have Si:∀X:List (List Int),X.length<=16383->∀x∈idxs X,Cd x:=by
  intro X hX x hx;obtain⟨i,_,rfl⟩:=List.mem_map.1 hx;have:=Ii (dt (X.take i)) (X.getD i []);have:=sk (X.take i);have:(X.take i).length<=X.length:=by rw[List.length_take];omega
  unfold Cd;omega
 refine⟨ht,hn,⟨?_,hR⟩,?_,Si _ (by omega),⟨?_,fun r hr=>?_⟩,⟨?_,Si _ (by omega)⟩,⟨?_,fun r hr=>?_⟩⟩
 ·show T.rules.length<= _;omega
 ·show(idxs (df T)).length<= _;omega
 ·show(dt (df T)).length<= _;omega
 ·rw[show(dh T).rows=dt (df T)from rfl,wI]at hr;obtain⟨s,hs,rfl⟩:=List.mem_map.1 hr;refine⟨?_,fun x hx=>?_⟩
  ·show _=(T.terms+1).toNat;rw[List.length_map];have:=(h.acts s hs).1;omega
  ·obtain⟨y,hy,rfl⟩:=List.mem_map.1 hx;exact(He ((h.acts s hs).2 y hy) h.a1 h.r1).2.1
 ·show(idxs (dC T)).length=(idxs (df T)).length;omega
 ·show(dt (dC T)).length<= _;omega
 ·rw[show(dh T).aj=dt (dC T)from rfl,wI]at hr;obtain⟨s,hs,rfl⟩:=List.mem_map.1 hr;refine⟨?_,fun x hx=>?_⟩
  ·show _=T.ah.toNat;rw[List.length_map];have:=(h.goto s hs).1;omega
  ·obtain⟨y,hy,rfl⟩:=List.mem_map.1 hx;exact(Nw ((h.goto s hs).2 y hy) h.a1).1
theorem zVt{G}{q}(hv:checkN G=0)(D:Done G q)(hl:q.1.length<=2000)(h0:0<q.1.length):VP (dh (gK G q)):=by
 have S:=Fi.jq hv;have h1:=S.t;have h2:=S.n;have htop:(Gr.top G:Int)<=240:=by unfold Gr.top;omega
 refine zUd (IA (Oa hv D hl h0)) (Ip hv hl) ?_ ?_ fun r hr=>?_
 ·show Cd (G.terms.length:Int);unfold Cd;omega
 ·show Cd (G.ah.length:Int);unfold Cd;omega
 ·obtain⟨j,hj,rfl⟩:=Hr hr;have hs:=D8 hv hj;refine⟨by unfold Cd;omega,by omega,fun x hx=>?_⟩;have:=hs.2.2 x hx;unfold Cd;omega
structure gq (T:Tb):Prop where
 may:jD T=true
 fit:iz (dh T)=true
theorem gq.right{T}(h:gq T):jQ (dh T)=true:=zLz (IA h.may)
theorem gq.bytes{T}(h:gq T):gm (dh T)=head++bM (dh T):=if_pos (by rw[h.right,h.fit];rfl)
theorem gq.pos{T}(h:gq T):0<(gm (dh T)).length:=by
 rw[h.bytes,List.length_append];have:head.length=3:=rfl;omega
theorem gq.back{T}(h:gq T):ko (gm (dh T))=(dh T,0):=zQ6 (fun e=>by have:=h.pos;rw[e]at this;exact absurd this (by decide))
theorem Wa{G}{q}(hv:checkN G=0)(D:Done G q)(hl:q.1.length<=2000)(h0:0<q.1.length):gq (gK G q):=⟨Oa hv D hl h0,zVs (zVt hv D hl h0)⟩
theorem zTF{X:List (List Int)}{m}(h:∀r∈X,r.length=m):X.flatten.length=X.length*m:=by
 induction X with
 |nil=>simp
 |cons y l ih=>
  rw[List.flatten_cons,List.length_append,List.length_cons,Nat.succ_mul,h y (by simp),ih fun r hr=>h r (by simp[hr])];omega
theorem zP8{T}(h:gq T)(S:lF T)(ht:T.terms=2)(hr4:(dh T).rows.length=4)(Gh:(dh T).row.length=5):∃(M:List Int),gm (dh T)=76::84::49::0::2::M/\60<(gm (dh T)).length:=by
 have P:=IA h.may;have e:gm (dh T)=head++txt (nums (dh T)):=by rw[h.bytes,Hf]
 have ht2:(dh T).terms=2:=ht;refine⟨(gm (dh T)).drop 5,?_,?_⟩
 ·rw[e];unfold nums;rw[ht2]
  rfl
 ·have hv:=Oq h.right h.fit
  have l1:=zTF (X:=(dh T).rows) (m:=3) fun r hr=>by
   have:=(hv.rows.2 r hr).1;rw[ht2]at this;exact this
  have l2:(dh T).bj.length=5:=by rw[hv.bj.1];exact Gh
  have l3:0<(dh T).rules.length:=P.r0
  have l4:2<=((dh T).rules.flatMap jT).length:=by
   cases hc:(dh T).rules with
   |nil=>rw[hc]at l3;exact absurd l3 (by decide)
   |cons y l=>
    rw[List.flatMap_cons,List.length_append];simp[jT];omega
  rw[hr4]at l1
  have hl:28+2<=(nums (dh T)).length:=by
   unfold nums;simp only[List.length_append,List.length_cons,List.length_nil];omega
  rw[e,List.length_append,sF];have:head.length=3:=rfl;omega
end Ts
namespace Pk
open Gr (bI boxed checkN bg gI)
open Lk (qB)
open Au
open Go.Proofs.YtegeamggbglneaaGreatDoor.Sep
open Ac (Zh Wh cm)
def ui(w:World):World:=
 ((((w.alloc (.cells #[.string ⟨#[65]⟩,.string ⟨#[66]⟩] 9)).alloc (.cells #[.string ⟨#[115]⟩] 9)).alloc (.cells #[.int .i64 1,.int .i64 3] 3)).alloc (.cells #[.int .i64 2] 3)).alloc
  (.cells #[.int .i64 3,.slice (some ⟨w.heap.size+1+1,0,none⟩) 2 2,.int .i64 3,.slice (some ⟨w.heap.size+1+1+1,0,none⟩) 1 1] 55)
theorem zQn(w):Below w.heap.size w (ui w)/\bI ⟨some ⟨w.heap.size,0,none⟩,2,some ⟨w.heap.size+1,0,none⟩,1,some ⟨w.heap.size+1+1+1+1,0,none⟩,2⟩ GB (ui w):=by
 have hb:Below w.heap.size w (ui w):=Gr.step (Gr.step (Gr.step (Gr.step (boxed _ _) (boxed _ _)) (boxed _ _)) (boxed _ _)) (boxed _ _);refine⟨hb,Zh (b1:=w.heap.size+1+1) (b2:=w.heap.size+1+1+1) ?_ ?_ ?_ ?_ ?_ ?_ ?_ ?_ ?_ ?_⟩
 ·exact gI (gI (gI (gI (bg rfl rfl))))
 ·exact gI (gI (gI (gI (bg rfl rfl))))
 ·exact gI (gI (gI (bg (by simp) rfl)))
 ·exact bg (by simp) rfl
 ·exact bg (by simp) rfl
 ·exact bg (by simp) rfl
 ·exact bg (by simp) rfl
 ·exact gI (gI (bg (by simp) rfl))
 ·exact gI (gI (bg (by simp) rfl))
 ·exact gI (bg (by simp) rfl)
structure Zw (T:Tb):Prop where
 may:jD T=true
 rows:(dh T).rows.length=4
 row:(dh T).row.length=5
 act:AH T 0 2=(1,2)
 goto:wR T 0 3=3
 acts:T.acts.length=5
theorem zU8(D:Done GB qB)(hv:checkN GB=0):Zw (gK GB qB):=by
 refine⟨Oa hv D (by decide) (by decide),zT5 D,zVO,?_,?_,(sB GB qB).2.1⟩
 ·have e:AQ (rK GB qB) (0,0) 0 2=cm GB qB 0 2:=rfl;show(if tm 2<2 then(0,0)else AQ (rK GB qB) (0,0) 0 2)=(1,2);rw[e,Wh]
  rfl
 ·show(if(3:Int)<=tm 2\/(1:Int)<3-tm 2 then-1 else XQ (max (rK GB qB).length (yR GB qB).length) (AQ (yR GB qB) (-1) 0 (3-tm 2-1)))=3;have h1:(rK GB qB).length=5:=(sB GB qB).2.1;have h2:(yR GB qB).length=5:=(sB GB qB).2.2;rw[h1,h2]
  decide+kernel
end Pk
namespace Ts
open Pk
open Gr (Sh bI gv boxed bg)
open Lk (qB Ev)
open Au
open Go.Proofs.YtegeamggbglneaaGreatDoor.Sep
open Ac (Yx NG)
def Al(w:World)(e:Ending)(w':World):Prop:=∃T aR cR aA cA aG cG,e=.returned (.tuple #[.agg (dI T aR cR aA cA aG cG),.int .i64 0])/\nW T aR cR aA cA aG cG w'/\lF T/\gq T/\(∃M,gm (dh T)=76::84::49::0::2::M/\60<(gm (dh T)).length)/\Below w.heap.size w w'
theorem Lx(h:Sh)(w:World)(k:bI h GB w)(bF:Bt.jA w):Calls Tryz.prog 22 #[gv h GB] w (Al w):=
 (Ac.pF h GB w k bF).mono fun e w' ho=>by
  cases ho with
  |no k1 k2 k3=>exact absurd (Yx k1).2.1.symm NG
  |yes k1 k2 k3 k4 k5 k6 k7 k8 k9=>
   have e:=Ev k4 k2;subst e;have hx:=zU8 k2 k1;have hf:=Wa k1 k2 k3 k2.ok.pos;exact⟨gK GB qB,_,_,_,_,_,_,k7,YX k1 k2 k3 k8 (by rw[(sB GB qB).1];exact k6),Ip k1 k3,hf,zP8 hf (Ip k1 k3) rfl hx.rows hx.row,k9⟩
theorem zPy(w:World):Sem.run Tryz.prog (convert 39 39 (.slice (some ⟨w.heap.size,0,none⟩) 3 3)) (w.alloc (.cells #[.int .u8 76,.int .u8 84,.int .u8 50] 5))=.ok (.slice (some ⟨w.heap.size,0,none⟩) 3 3) (w.alloc (.cells #[.int .u8 76,.int .u8 84,.int .u8 50] 5 (3,4))):=
 Lib.run_convert_bytes_const w 39 5 #[.int .u8 76,.int .u8 84,.int .u8 50] 3 3 Tryz.underlying39 Tryz.underlying5
theorem zVQ(w:World):dS (some ⟨w.heap.size,0,none⟩) 3 [76,84,50] (w.alloc (.cells #[.int .u8 76,.int .u8 84,.int .u8 50] 5 (3,4))):=by
 have hh:=gJ w (.cells #[.int .u8 76,.int .u8 84,.int .u8 50] 5 (3,4));refine⟨fun i hi=>⟨w.heap.size,0,rfl,?_⟩,fun x hx=>?_,by decide,by decide⟩
 ·have hi3:i<3:=hi;have hc:i=0\/i=1\/i=2:=by omega
  unfold World.cell?;rw[hh];rcases hc with rfl|rfl|rfl<;>rfl
 ·have:x=76\/x=84\/x=50:=by simpa using hx
  omega
theorem dS.byte{a:Option Addr}{c:Nat}{L:List Int}{w:World}(h:dS a c L w){i:Nat}{x:Int}(hi:L[i]?=some x):∃b o,a=some ⟨b,o,none⟩/\w.cell? ⟨b,o+i,none⟩=some (.int .u8 x):=by
 obtain⟨hl,e⟩:=List.getElem?_eq_some_iff.1 hi;obtain⟨b,o,e1,h1⟩:=h.at_ i hl
 exact⟨b,o,e1,by rw[h1,e]⟩
theorem zME(W:World)(bF:Bt.jA W):Calls Tryz.prog 16 #[] W (Gr.Is (.bool true) W):=by
 obtain⟨B0,K0⟩:=zQn W;obtain⟨wq,eU⟩:∃wq,(ui W).alloc (.cells #[.slice (some ⟨W.heap.size,0,none⟩) 2 2,.slice (some ⟨W.heap.size+1,0,none⟩) 1 1,.slice (some ⟨W.heap.size+1+1+1+1,0,none⟩) 2 2,.int .i64 3] 47)=wq:=⟨_,rfl⟩
 have hq:Below W.heap.size W wq:=by
  rw[←eU];exact Gr.step B0 (boxed _ _)
 have KQ:bI ⟨some ⟨W.heap.size,0,none⟩,2,some ⟨W.heap.size+1,0,none⟩,1,some ⟨W.heap.size+1+1+1+1,0,none⟩,2⟩ GB wq:=by
  rw[←eU];exact K0.went (boxed _ _)
 have CO:=Lx _ wq KQ (bF.below hq bF.pos);have Ph:Calls Tryz.prog 22 #[.agg #[.slice (some ⟨W.heap.size,0,none⟩) 2 2,.slice (some ⟨W.heap.size+1,0,none⟩) 1 1,.slice (some ⟨W.heap.size+1+1+1+1,0,none⟩) 2 2,.int .i64 3]] wq (Al wq):=CO;have BQ:=af hq;have CB:=af Ph;have g0:wq.cell? ⟨W.heap.size+1+1+1+1+1,0,none⟩=some (.slice (some ⟨W.heap.size,0,none⟩) 2 2):=by rw[←eU];exact bg (by simp[ui]) rfl
 have g1:wq.cell? ⟨W.heap.size+1+1+1+1+1,1,none⟩=some (.slice (some ⟨W.heap.size+1,0,none⟩) 1 1):=by rw[←eU];exact bg (by simp[ui]) rfl
 have g2:wq.cell? ⟨W.heap.size+1+1+1+1+1,2,none⟩=some (.slice (some ⟨W.heap.size+1+1+1+1,0,none⟩) 2 2):=by rw[←eU];exact bg (by simp[ui]) rfl
 have g3:wq.cell? ⟨W.heap.size+1+1+1+1+1,3,none⟩=some (.int .i64 3):=by rw[←eU];exact bg (by simp[ui]) rfl
 clear CO Ph K0 KQ B0 hq bF;unfold ui at eU;go_enter Tryz.func16,Tryz.ntmps16;go_wp2_with fail;refine CB.out.mono ?_;rintro e w3 ⟨T,aR,cR,aA,cA,aG,cG,rfl,hT,hs,hx,⟨M,hM,JL⟩,hb⟩;have b4:=boxed w3 (.cells (dI T aR cR aA cA aG cG) 26);have B4:=af (Gr.step (Gr.step BQ.out hb) b4);have PA:=af (WJ T aR cR aA cA aG cG _ (hT.went b4) hs hx.may);have SM:=af (Yb hs);have FN:=af hx;have hpo:sS T=(dh T,true):=if_pos hx.may;obtain⟨z0,z1,z2,z3,z4⟩:=sx (T:=T) (aR:=aR) (cR:=cR) (aA:=aA) (cA:=cA) (aG:=aG) (cG:=cG) w3 26;have OB:=af FN.out.back;have HM:=af hM;have Pr:=af JL;unfold Eh at PA;rw[hpo]at PA;clear eU g0 g1 g2 g3 hT hs hx hb b4 CB BQ FN hpo hM JL;dsimp only at PA;unfold dI at*;go_wp2_with fail;generalize w3.alloc (.cells #[.slice aR T.rules.length cR,.int .i64 T.terms,.int .i64 T.ah,.slice aA T.acts.length cA,.slice aG T.goto.length cG] 26)=w4 at*;generalize dh T=P at*;refine PA.out.mono ?_;rintro e w5 ⟨pR,qR,pW,qW,pX,qX,pG,qG,pH,qH,rfl,hP,hb⟩;have b6:=boxed w5 (.cells (bU P pR qR pW qW pX qX pG qG pH qH) 32);have B6:=af (Gr.step (Gr.step B4.out hb) b6);have HP:=af (hP.went b6);have ZP:=af (nJ (P:=P) (aR:=pR) (cR:=qR) (aW:=pW) (cW:=qW) (aX:=pX) (cX:=qX) (aG:=pG) (cG:=qG) (aH:=pH) (cH:=qH) w5 32);clear hP hb b6 z0 z1 z2 z3 z4 PA;have BY:=af (UT P pR qR pW qW pX qX pG qG pH qH _ HP.out SM.out);unfold yP at BY;obtain⟨y0,y1,y2,y3,y4,y5,y6⟩:=ZP.out;unfold bU at*;go_wp2_with fail;generalize w5.alloc (.cells #[.slice pR P.rules.length qR,.int .i64 P.terms,.int .i64 P.ah,.slice pW P.row.length qW,.slice pX P.rows.length qX,.slice pG P.bj.length qG,.slice pH P.aj.length qH] 32)=w6 at*;generalize gm P=L at*;refine BY.out.mono ?_;rintro e w7 ⟨a7,c7,rfl,hy,hb⟩;have Y7:=af hy;have C7:=af hb;have OF:=af (pF hy);unfold nU at OF;rw[OB.out]at OF;dsimp only at OF;clear hy hb BY y0 y1 y2 y3 y4 y5 y6;go_wp2_with fail;refine OF.out.mono ?_;rintro e w8 ⟨uR,vR,uW,vW,uX,vX,uG,vG,uH,vH,rfl,hU,hb⟩;have b9:=boxed w8 (.cells (bU P uR vR uW vW uX vX uG vG uH vH) 32);have C9:=af (Gr.step (Gr.step C7.out hb) b9);have U9:=af (hU.went b9);have ZU:=af (nJ (P:=P) (aR:=uR) (cR:=vR) (aW:=uW) (cW:=vW) (aX:=uX) (cX:=vX) (aG:=uG) (cG:=vG) (aH:=uH) (cH:=vH) w8 32);have Y9:=af ((Y7.out.went hb).went b9);clear hU hb b9 OF C7;unfold bU at*;have hcv:=zPy (w8.alloc (.cells #[.slice uR P.rules.length vR,.int .i64 P.terms,.int .i64 P.ah,.slice uW P.row.length vW,.slice uX P.rows.length vX,.slice uG P.bj.length vG,.slice uH P.aj.length vH] 32));rw[World.size_alloc]at hcv;go_wp2_with fail;generalize hw9:w8.alloc (.cells #[.slice uR P.rules.length vR,.int .i64 P.terms,.int .i64 P.ah,.slice uW P.row.length vW,.slice uX P.rows.length vX,.slice uG P.bj.length vG,.slice uH P.aj.length vH] 32)=w9 at*;have h9:w9.heap.size=w8.heap.size+1:=by rw[←hw9,World.size_alloc]
 have bm:=Ml w9 (.cells #[.int .u8 76,.int .u8 84,.int .u8 50] 5 (3,4));have O2:=af (pF (zVQ w9));unfold nU at O2;rw[show ko [76,84,50]=(kT,10)from rfl,h9]at O2;dsimp only at O2;generalize kT=Z at O2;refine O2.out.mono ?_;rintro e wa ⟨tR,sR,tW,sW,tX,sX,tG,sG,tH,sH,rfl,_,hb⟩;have bb:=boxed wa (.cells (bU Z tR sR tW sW tX sX tG sG tH sH) 32);have CB:=af (Gr.step (Gr.step (Gr.step C9.out bm) hb) bb);have DB:=af (Gr.step (Gr.step bm hb) bb);clear hb bb bm O2 hcv;have SE:=af (zIi P pR qR pW qW pX qX pG qG pH qH uR vR uW vW uX vX uG vG uH vH _ (HP.out.went CB.out) (U9.out.went DB.out) SM.out);obtain⟨y0,y1,y2,y3,y4,y5,y6⟩:=ZP.out.went CB.out;obtain⟨x0,x1,x2,x3,x4,x5,x6⟩:=ZU.out.went DB.out;have YB:=Y9.out.went DB.out;obtain⟨b0,o0,rfl,k0⟩:=YB.byte (i:=0) (x:=76) (by rw[HM.out];rfl);obtain⟨b1,o1,e1,k4⟩:=YB.byte (i:=4) (x:=2) (by rw[HM.out];rfl);simp only[Option.some.injEq,Addr.mk.injEq,and_true]at e1;obtain⟨rfl,rfl⟩:=e1;have JL:=Pr.out;have aaC:(60:Int)<(L.length:Int):=by omega
 have h0l:(0:Int)<(L.length:Int):=by omega
 have h4l:(4:Int)<(L.length:Int):=by omega
 have h4n:4<L.length:=by omega
 have h0n:0<L.length:=by omega
 have Zo:=af (Gr.step B6.out CB.out);clear YB HM Pr Y7 Y9 ZP ZU C9 HP U9 SM OB;unfold bU at*;rw[Nat.add_zero]at k0;go_wp2_with (go_at_call 11;refine(SE.out).mono ?_;rintro e wc ⟨rfl,hb⟩;have BC:=af (Gr.step Zo.out hb);clear hb);go_ret;exact⟨rfl,BC.out⟩
end Ts
namespace Ts
open Pk
open Ac (gN Xe eF)
open Gr (ai Sh gv bI Bx boxed Wz)
open Au (uz)
def zSb(w:World)(e:Ending)(w':World):Prop:=∃T er aR cR aA cA aG cG,e=.returned (.tuple #[.agg (dI T aR cR aA cA aG cG),.int .i64 er])/\nW T aR cR aA cA aG cG w'/\lF T/\(er≠0\/er=0/\gq T)/\Below w.heap.size w w'
theorem zUy{G:ai}{w w':World}{e:Ending}(h:gN G w e w'):zSb w e w':=by
 cases h with
 |no k1 k2 k3=>
  rename_i er
  have hne:er≠0:=by
   rcases Xe k1 with⟨_,h⟩|⟨_,_,_,_,_,h⟩
   ·exact h
   ·omega
  exact⟨Dv,er,none,0,none,0,none,0,k2,Mf w',zVn,.inl hne,k3⟩
 |yes k1 k2 k3 k4 k5 k6 k7 k8 k9=>
  rename_i q aR aA aG cR cA cG;obtain⟨e1,e2,e3⟩:=sB G q;refine⟨gK G q,0,aR,cR,aA,cA,aG,cG,?_,YX k1 k2 k3 k8 (by omega),Ip k1 k3,.inr ⟨rfl,Wa k1 k2 k3 k2.ok.pos⟩,k9⟩;rw[k7];unfold dI eF;rw[e1,e2,e3]
  rfl
theorem zPp{a:Option Addr}{c:Nat}{L:List Int}{w:World}(h:dS a c L w){k:Nat}(hk:k<=L.length){c':Nat}(hc:k<=c'):dS a c' (L.take k) w:=by
 have hl:(L.take k).length=k:=by rw[List.length_take];omega
 refine⟨fun i hi=>?_,fun x hx=>h.j0 x (List.mem_of_mem_take hx),by rw[hl];exact hc,by rw[hl];have:=h.len;omega⟩;rw[hl]at hi;obtain⟨b,o,e,h1⟩:=h.at_ i (by omega)
 exact⟨b,o,e,by rw[h1,List.getElem_take]⟩
theorem zSw{base c:Nat}{a:Option Addr}{L:List Int}{w:World}(h:w.ownsRow base 5 1 (.slice a L.length c) L.length (bv L))(hb:By L)(hl:L.length<=35184372088832):dS a c L w:=by
 have hr:=Sep.Reads.dQ h;refine⟨fun i hi=>?_,hb,wM h,hl⟩;obtain⟨b,o,e,k⟩:=hr i (by simpa[bv]using hi);exact⟨b,o,e,by rw[k];simp only[bv,List.getElem_map]⟩
theorem zMn{P:Pd}(S:uT P):(gm P).length<=3000000000000:=by
 have lR:=Nv (R:=P.rules) P.rules.length 100000 S.rr;have lX:=Es (X:=P.rows) P.rows.length 100000 S.wr;have lH:=Es (X:=P.aj) P.aj.length 100000 S.gr;rw[List.take_length]at lR lX lH;have s1:=S.rl;have s2:=S.wl;have s3:=S.gl;have s4:=S.zJ;have s5:=S.zh
 have hl:(nums P).length<=1000000000000:=by
  unfold nums;simp only[List.length_append,List.length_cons,List.length_nil];omega
 unfold gm;split
 ·rw[Hf,List.length_append,sF];have:head.length=3:=rfl;omega
 ·exact Nat.zero_le _
theorem zTz{T:Tb}(h:gq T){k:Nat}(hk:k<(gm (dh T)).length):ko ((gm (dh T)).take k)=(kT,4):=zVX h.right h.fit hk
theorem zTy{T:Tb}(h:gq T)(x:Int):ko (gm (dh T)++[x])=(kT,10):=by
 rw[YR h.right h.fit,if_neg (by simp)]
theorem zS7(h:Sh)(G:ai)(w:World)(k:bI h G w)(bF:Bt.jA w)(kk cc:Int)(hkk:0<=kk/\kk<=65535)(hcc:0<=cc/\cc<=255):
  Calls Tryz.prog 6 #[gv h G,.int .u16 kk,.int .u8 cc] w (Gr.Is (.bool true) w):=by
 have X0:=af (Bx.start h G w 47);have MU:=af (fun w1 (b:Below w.heap.size w w1)=>Wz h G w1 (k.went b));have OF:=af (fun w1 (b:Below w.heap.size w w1)=>(Ac.pF h G w1 (k.went b) (bF.below b bF.pos)).mono fun e w' ho=>zUy ho);have AW:=af (fun w1 (b:Below w.heap.size w w1)=>zME w1 (bF.below b bF.pos));have hr1:=k.t2;have hr2:=k.n2;have hr3:=k.r2;clear k bF;obtain⟨x0,x1,x2,x3⟩:=X0.out.box;unfold gv at*;go_enter Tryz.func6,Tryz.ntmps6;go_wp2_with fail;refine(MU.out _ X0.out.below).mono ?_;rintro e w1 ⟨n,rfl,hn,hb⟩;have X1:=af (X0.out.went hb);clear hb MU hn x0 x1 x2 x3 X0;obtain⟨x0,x1,x2,x3⟩:=X1.out.box
 by_cases hn9:40<n
 ·go_wp2_with (go_at_call 16;refine(AW.out _ X1.out.below).mono ?_;rintro e w2 ⟨rfl,hb⟩;have HB:=af (Gr.step X1.out.below hb);clear hb);go_ret;exact⟨rfl,HB.out⟩
 go_wp2_with fail;refine(OF.out _ X1.out.below).mono ?_;rintro e w2 ⟨T,er,aR,cR,aA,cA,aG,cG,rfl,hT,hs,hok,hb⟩;have b3:=boxed w2 (.cells (dI T aR cR aA cA aG cG) 26);have B3:=af (Gr.step (Gr.step X1.out.below hb) b3);have Z3:=af (sx (T:=T) (aR:=aR) (cR:=cR) (aA:=aA) (cA:=cA) (aG:=aG) (cG:=cG) w2 26);have T3:=af (hT.went b3);clear hT hb b3 x0 x1 x2 x3 X1 OF hn9;obtain⟨z0,z1,z2,z3,z4⟩:=Z3.out;rcases hok with hne|⟨rfl,hf⟩
 ·have abl:(er != 0)=true:=by simpa using hne
  unfold dI at*;go_wp2_with (go_at_call 16;refine(AW.out _ B3.out).mono ?_;rintro e w4 ⟨rfl,hb⟩;have HB:=af (Gr.step B3.out hb);clear hb);go_ret;exact⟨rfl,HB.out⟩
 have PA:=af (WJ T aR cR aA cA aG cG _ T3.out hs hf.may);have RI:=af (fun w1 (D:nW T aR cR aA cA aG cG w1)=>zL0 T aR cR aA cA aG cG w1 D hs);rw[show bo T=true from by have:=hf.may;unfold jD at this;rw[Bool.and_eq_true]at this;exact this.2]at RI;have SM:=af (Yb hs);have hpo:sS T=(dh T,true):=if_pos hf.may;have hpos:=hf.pos;have hbl:=zMn SM.out;have CUT:=af (fun m (hm:m<(gm (dh T)).length)=>zTz hf hm);have MORE:=af (zTy hf cc);unfold Eh at PA;rw[hpo]at PA;clear hs hf hpo;dsimp only at PA;unfold dI at*;go_wp2_with fail;generalize w2.alloc (.cells #[.slice aR T.rules.length cR,.int .i64 T.terms,.int .i64 T.ah,.slice aA T.acts.length cA,.slice aG T.goto.length cG] 26)=w3 at*;generalize dh T=P at*;refine PA.out.mono ?_;rintro e w5 ⟨pR,qR,pW,qW,pX,qX,pG,qG,pH,qH,rfl,hP,hb⟩;have b6:=boxed w5 (.cells (bU P pR qR pW qW pX qX pG qG pH qH) 32);have B6:=af (Gr.step (Gr.step B3.out hb) b6);have T6:=af ((T3.out.went hb).went b6);have Z6:=af ((Z3.out.went hb).went b6);have BY:=af (UT P pR qR pW qW pX qX pG qG pH qH _ (hP.went b6) SM.out);have ZP:=af (nJ (P:=P) (aR:=pR) (cR:=qR) (aW:=pW) (cW:=qW) (aX:=pX) (cX:=qX) (aG:=pG) (cG:=qG) (aH:=pH) (cH:=qH) w5 32);clear hP hb b6 z0 z1 z2 z3 z4 PA SM T3 Z3 B3;unfold yP at BY;obtain⟨y0,y1,y2,y3,y4,y5,y6⟩:=ZP.out;unfold bU at*;go_wp2_with fail;generalize w5.alloc (.cells #[.slice pR P.rules.length qR,.int .i64 P.terms,.int .i64 P.ah,.slice pW P.row.length qW,.slice pX P.rows.length qX,.slice pG P.bj.length qG,.slice pH P.aj.length qH] 32)=w6 at*;generalize gm P=L at*;refine BY.out.mono ?_;rintro e w7 ⟨a7,c7,rfl,hy,hb⟩;have Y7:=af hy;have B7:=af (Gr.step B6.out hb);have T7:=af (T6.out.went hb);obtain⟨z0,z1,z2,z3,z4⟩:=Z6.out.went hb;have hlen:=hy.len;have hcap:=hy.cap;have hl0:((L.length:Int)==0)=false:=by simp;intro e;rw[e]at hpos;exact absurd hpos (by decide)
 clear hy hb BY y0 y1 y2 y3 y4 y5 y6 ZP T6 Z6 B6;have Qe:=af (RI.out w7 T7.out);have hm0:0<=kk % (L.length:Int):=Int.emod_nonneg _ (by omega);have oq:kk % (L.length:Int)<(L.length:Int):=Int.emod_lt_of_pos _ (by omega);have hm2:kk % (L.length:Int)<=(c7:Int):=by omega
 have hm3:(kk % (L.length:Int)).toNat<=c7:=by omega
 clear RI T7
 go_wp2_with (first
  |(go_at_call 23;(with_reducible refine(Qe.out).mono ?_);rintro e w8 ⟨rfl,hb⟩;have Y8:=af (Y7.out.went hb);have B8:=af (Gr.step B7.out hb);clear hb Qe)
  |fail)
 obtain⟨m,hm⟩:∃m,m=(kk % (L.length:Int)).toNat:=⟨_,rfl⟩;rw[←hm];have zn:m<L.length:=by omega
 have hlm:(L.take m).length=m:=by rw[List.length_take];omega
 have O1:=af (pF (zPp Y8.out (k:=m) (by omega) (c':=c7) (by omega)));unfold nU at O1;rw[CUT.out m zn,hlm]at O1;dsimp only at O1;generalize kT=Z at O1;refine O1.out.mono ?_;rintro e w9 ⟨tR,sR,tW,sW,tX,sX,tG,sG,tH,sH,rfl,_,hb⟩;have bb:=boxed w9 (.cells (bU Z tR sR tW sW tX sX tG sG tH sH) 32);have Y9:=af ((Y8.out.went hb).went bb);have B9:=af (Gr.step (Gr.step B8.out hb) bb);have hby:=Y8.out.j0;clear hb bb O1 CUT Y8 Y7 hm hm0 oq hm2 hm3 hlm zn z0 z1 z2 z3 z4;unfold bU at*;have hL:=List.length_pos_iff.1 hpos;obtain⟨i0,hi0,hz0,hz1,hz2⟩:=info_parts uz;have KO:(w9.alloc (.cells #[.slice tR Z.rules.length sR,.int .i64 Z.terms,.int .i64 Z.ah,.slice tW Z.row.length sW,.slice tX Z.rows.length sX,.slice tG Z.bj.length sG,.slice tH Z.aj.length sH] 32)).heap.size=w9.heap.size+1:=World.size_alloc _ _;have E0:=af (gJ (w9.alloc (.cells #[.slice tR Z.rules.length sR,.int .i64 Z.terms,.int .i64 Z.ah,.slice tW Z.row.length sW,.slice tX Z.rows.length sX,.slice tG Z.bj.length sG,.slice tH Z.aj.length sH] 32)) (.cells #[] 5));rw[KO]at E0;have YE:=af (Y9.out.went (boxed _ (.cells #[] 5)));have BE:=af (boxed (w9.alloc (.cells #[.slice tR Z.rules.length sR,.int .i64 Z.terms,.int .i64 Z.ah,.slice tW Z.row.length sW,.slice tX Z.rows.length sX,.slice tG Z.bj.length sG,.slice tH Z.aj.length sH] 32)) (.cells #[] 5))
 have HN:=af (show a7=none->L.length=0 from fun e=>by
  obtain⟨b,o,e2,_⟩:=YE.out.at_ 0 hpos
  rw[e]at e2
  cases e2)
 have PD:=af (show∀p,a7=some p->∀j u,(bv L)[j]?=some u->((w9.alloc (.cells #[.slice tR Z.rules.length sR,.int .i64 Z.terms,.int .i64 Z.ah,.slice tW Z.row.length sW,.slice tX Z.rows.length sX,.slice tG Z.bj.length sG,.slice tH Z.aj.length sH] 32)).alloc (.cells #[] 5)).cell? (p.add j)=some u from fun p e j u hu=>by
  have hj:j<L.length:=by have:=(List.getElem?_eq_some_iff.1 hu).1;simpa[bv]using this
  obtain⟨b,o,e2,h1⟩:=YE.out.at_ j hj
  rw[e]at e2;obtain rfl:=Option.some.inj e2;rw[WideShapes.add_plain,h1];simp[bv,hj]at hu
  rw[hu])
 have ON:=af (Rw.zRd (size:=1) E0.out (Nat.le_refl _));have Bq:(bv L).length=L.length:=List.length_map _
 have Bp:∀u∈bv L,u.oneCell'=true:=fun u hu=>by
  obtain⟨x,_,rfl⟩:=List.mem_map.1 hu
  rfl
 have LB:=af Bq;have L1:=af Bp;clear Bq Bp E0
 go_wp2_with (first
  |(at_builtin;refine zEI _ rfl _ _ 39 rfl (w9.heap.size+1) 5 i0 (.int .u8 0) 1 1 Tryz.underlying39 hi0 hz0 hz1 hz2 rfl (by decide) (.slice (some ⟨w9.heap.size+1,0,none⟩) 0 0) 0 [] rfl ON.out a7 L.length c7 (bv L) rfl (by rw[LB.out,Nat.mul_one]) PD.out HN.out L1.out (by unfold maxLen;omega) (by omega) (by rw[World.size_alloc,KO];omega) ?_;intro v1 wb hown1 hg1 _;rw[Nat.zero_add,List.nil_append]at hown1;obtain⟨ab,cb,rfl⟩:=Rw.cu hown1;have I8:=af hown1;have BB:=af (Below.grown BE.out hg1 BE.out.size (fun x hx=>by injection hx with hx;subst hx;exact Nat.le_of_eq KO));clear hown1 hg1 ON PD HN L1 LB)
  |(at_builtin;refine Rw.lL _ rfl _ _ 39 rfl (w9.heap.size+1) 5 i0 (.int .u8 0) 1 1 Tryz.underlying39 hi0 hz0 hz1 hz2 rfl (by decide) (.slice ab L.length cb) L.length (bv L) rfl (I8.out.alloc _) 0 (.slice (some ⟨wb.heap.size,0,none⟩) 1 1) 1 [.int .u8 cc] rfl (yM 0 wb (.int .u8 cc) 5 (Nat.zero_le _) _ rfl) (by simp[Value.oneCell']) (by unfold maxLen;omega) (by omega) (by have:=BB.out.size;rw[World.size_alloc];omega) ?_;intro v2 wc hown2 hg2 _;obtain⟨ac,cc2,rfl⟩:=Rw.cu hown2;have yZ:=af hown2;have BC:=af (Below.grown (Gr.step BB.out (boxed wb (.cells #[.int .u8 cc] 5))) hg2 (Gr.step BB.out (boxed wb (.cells #[.int .u8 cc] 5))).size (fun x hx=>by have:=(World.ownsRow.lt I8.out x hx).1;omega));clear hown2 hg2)
  |fail)
 have hlc:(L++[cc]).length=L.length+1:=by simp
 have O2:=af (pF (L:=L++[cc]) (zSw (base:=w9.heap.size+1) (a:=ac) (c:=cc2) (by rw[hlc];have h2:=yZ.out;simpa[bv]using h2) (fun x hx=>by
  rcases List.mem_append.1 hx with hx|hx
  ·exact hby x hx
  ·rw[List.mem_singleton]at hx;subst hx
   omega) (by rw[hlc];omega)))
 unfold nU at O2;rw[MORE.out,hlc]at O2;dsimp only at O2;generalize kT=Y at O2;refine O2.out.mono ?_;rintro e we ⟨kR,lR,kW,lW,kX,lX,kG,lG,kH,lH,rfl,_,hb⟩;have bb:=boxed we (.cells (bU Y kR lR kW lW kX lX kG lG kH lH) 32);have BF:=af (Gr.step (Gr.step (Gr.step B9.out BC.out) hb) bb);clear hb bb O2 MORE hlc hby I8 yZ;unfold bU at*;go_wp2_with (go_at_call 16;refine(AW.out _ BF.out).mono ?_;rintro e wz ⟨rfl,hb⟩;have HB:=af (Gr.step BF.out hb);clear hb);go_ret;exact⟨rfl,HB.out⟩
