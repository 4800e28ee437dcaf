/- A part of the proof. -/
import Derived.Test.YtegeamggbglneaaGreatDoorPk42
set_option linter.unusedVariables false
namespace Go.Proofs.YtegeamggbglneaaGreatDoor
namespace Lk
open Gr (ofN)
open Im
open Au
theorem zEN{q r}(hq:q.2.length=q.1.length)(hr:r.2.length=r.1.length)(h:states q=states r):q=r:=by
 have h1:q.1=r.1:=by
  have:=congrArg (List.map Prod.fst) h;unfold states at this
  rwa [List.map_fst_zip (by omega),List.map_fst_zip (by omega)]at this
 have h2:q.2=r.2:=by
  have:=congrArg (List.map Prod.snd) h;unfold states at this
  rwa [List.map_snd_zip (by omega),List.map_snd_zip (by omega)]at this
 exact Prod.ext h1 h2
def qB:Whole:=([k0,k1,k2,k3,k4],[t0,t1,[],[],[]])
theorem zFE{q}(h:Built GB 0 (states q))(D:Done GB q):q=qB:=zEN D.all rfl ((h.uniq zMU).2.trans rfl)
theorem zSk{x}(hx:zAI GB x=true)(hb:behB GB x=true)(ho:ofN GB (behV GB x)≠[]):zJT GB x=[]:=by
 have hm:=zCW hx;have key:∀x∈allI GB,behB GB x=true->ofN GB (behV GB x)≠[]->zJT GB x=[]:=by decide+kernel
 exact key x hm hb ho
theorem zGu(D:Done GB qB){i}{x}{t}(h:La GB qB i x t):t=0:=by
 induction h with
 |start=>rfl
 |move _ _ _ ih=>exact ih
 |opens h1 h2 h3 h4 ih=>
  rename_i i r x t u;have hr:=zSk (zAn (zDo D zC5 h1).2) h2 (fun e=>by rw[e]at h3;cases h3);rw[hr,ih,List.nil_append]at h4;have:=(zCH (G:=GB) zC5 (t:=0) (.inl rfl) (l:=[]) (u:=u)).1 h4;rcases this with h5|⟨_,h5⟩
  ·obtain⟨pre,y,post,e,_⟩:=h5;simp at e
  ·exact h5
theorem zUc:La GB qB 2 (1,1) 0:=by
 have h1:La GB qB 0 (2,0) 0:=.start;have h2:La GB qB 0 (1,0) 0:=.opens (r:=1) h1 (by decide+kernel) (by decide+kernel) ((zCH (G:=GB) zC5 (.inl rfl)).2 (.inr ⟨(fun z hz=>by cases hz),rfl⟩));exact .move (x:=(1,0)) h2 (by decide+kernel) (by decide+kernel)
end Lk
namespace Ac
open Im
open Au
open Lk (zDo endI qB zFE zGu)
theorem zUI{G}{q}{i t}(P)(h:∀k,k<=G.rules.length->redB G q i k t=true->P k=true):(actL G q i t).length<=(zBY q i t).length+((List.range (G.rules.length+1)).filter P).length:=by
 have h1:(redL G q i t).length<=((List.range G.rules.length).filter P).length:=by
  unfold redL;rw[List.length_map,←List.countP_eq_length_filter,←List.countP_eq_length_filter];exact List.countP_mono_left fun k hk e=>h k (by have:=List.mem_range.1 hk;omega) e
 have h2:(accL G q i t).length<=([G.rules.length].filter P).length:=by
  unfold accL;split
  ·rename_i e;rw[List.filter_cons,if_pos (h _ (Nat.le_refl _) e)];simp
  ·simp
 unfold actL;rw[List.length_append,List.length_append,List.range_succ,List.filter_append,List.length_append];omega
theorem zPP{G}{q}{i t}(h:(actL G q i t).length<=1):cellC G q i t=[]:=by
 unfold cellC;rcases hl:actL G q i t with _|⟨a,_|⟨b,l⟩⟩
 ·rfl
 ·rfl
 ·rw[hl]at h;simp at h
def clB:Nat->List Itm
 |0=>cloN GB 4 k0
 |1=>cloN GB 4 k1
 |2=>cloN GB 4 k2
 |3=>cloN GB 4 k3
 |_=>cloN GB 4 k4
theorem zMY{i}(hi:i<5):Is (clB i) (Clo GB (zAK qB.1 i)):=by
 have:i=0\/i=1\/i=2\/i=3\/i=4:=by omega
 rcases this with rfl|rfl|rfl|rfl|rfl
 ·exact zDL (G:=GB) (L:=k0) 4 (by decide+kernel) (by decide+kernel) (by decide+kernel)
 ·exact zDL (G:=GB) (L:=k1) 4 (by decide+kernel) (by decide+kernel) (by decide+kernel)
 ·exact zDL (G:=GB) (L:=k2) 4 (by decide+kernel) (by decide+kernel) (by decide+kernel)
 ·exact zDL (G:=GB) (L:=k3) 4 (by decide+kernel) (by decide+kernel) (by decide+kernel)
 ·exact zDL (G:=GB) (L:=k4) 4 (by decide+kernel) (by decide+kernel) (by decide+kernel)
theorem zSi(D:Done GB qB){i t}(hi:i<5):(actL GB qB i t).length<=(zBY qB i t).length+((List.range 3).filter fun k=>decide (endI GB k∈clB i)&&decide (t=0)).length:=
 zUI (G:=GB) _ fun k hk e=>by
  have l:=zCa.1 e;have h1:=(zDo D zC5 l).2;have h2:=zGu D l;rw[Bool.and_eq_true,decide_eq_true_iff,decide_eq_true_iff];exact⟨((zMY hi).2 _).2 h1,by omega⟩
theorem zSj(D:Done GB qB){i t}(hi:i<5)(ht:t<3):(actL GB qB i t).length<=1:=by
 refine Nat.le_trans (zSi D hi) ?_;have key:∀i,i<5->∀t,t<3->(zBY qB i t).length+((List.range 3).filter fun k=>decide (endI GB k∈clB i)&&decide (t=0)).length<=1:=by decide+kernel
 exact key i hi t ht
theorem zPm(D:Done GB qB):zBP GB qB=[]:=by
 unfold zBP rowC;rw[List.flatMap_eq_nil_iff];intro i hi;rw[List.flatMap_eq_nil_iff];intro t ht;exact zPP (zSj D (List.mem_range.1 hi) (List.mem_range.1 ht))
theorem zRh{er}{T}(h:TabIs GB er T):er=0/\T=tabL GB qB/\Done GB qB:=by
 cases h with
 |bad h1 h2=>exact absurd (h1.uniq zMU).1 h2
 |clash h1 h2 h3 h4 h5=>
  obtain rfl:=zFE h4 h2;exact absurd (zPm h2) h5
 |all h1 h2 h3 h4 h5=>
  obtain rfl:=zFE h4 h2;exact⟨rfl,rfl,h2⟩
theorem zJ5:fstA GB qB 0 2=(1,2):=by
 have:zBY qB 0 2=[(1,2)]:=by decide+kernel
 unfold fstA actL;rw[this]
 rfl
abbrev a0:List Itm:=[(2,0)]
abbrev a1:List Itm:=[(1,1)]
abbrev a2:List Itm:=[(0,1),(2,1)]
abbrev a3:List Itm:=[(0,2)]
abbrev u0:List (Int×Int):=[(2,1),(3,2)]
abbrev u2:List (Int×Int):=[(1,3)]
abbrev u3:List (Int×Int):=[(2,1),(3,4)]
end Ac
namespace Lk
open Go.RowKit Go.Maps
open Gr (Fits)
open Im
open Au
def lw(W:World):World:=
 ((((W.alloc (.cells #[.string ⟨#[65]⟩,.string ⟨#[66]⟩] 9)).alloc (.cells #[.string ⟨#[115]⟩] 9)).alloc (.cells #[.int .i64 1,.int .i64 3] 3)).alloc (.cells #[.int .i64 2] 3)).alloc
  (.cells #[.int .i64 3,.slice (some ⟨W.heap.size+1+1,0,none⟩) 2 2,.int .i64 3,.slice (some ⟨W.heap.size+1+1+1,0,none⟩) 1 1] 55)
theorem fitz(x)(h: -1000<=x)(k:x<=1000):Fits x:=⟨by omega,by omega⟩
