/- A part of the proof. -/
import Derived.Test.YtegeamggbglneaaGreatDoorPk46
set_option linter.unusedVariables false
namespace Go.Proofs.YtegeamggbglneaaGreatDoor
namespace Ac
open Im
open Au
theorem zR8{G}{q}(D:Done G q){i}(hi:i<q.1.length){t}{x}(hx:x∈actL G q i t):(∃n:Nat,n<q.1.length/\x=(1,(n:Int)))\/x=(3,0)\/∃k:Nat,k<G.rules.length/\x=(2,(k:Int)):=by
 unfold actL at hx;rcases List.mem_append.1 hx with h|h
 ·rcases List.mem_append.1 h with h|h
  ·rcases zFo D hi t with⟨_,e⟩|⟨n,_,hn,e⟩
   ·rw[e]at h;cases h
   ·rw[e,List.mem_singleton]at h;exact .inl ⟨n,hn,h⟩
  ·unfold accL at h;split at h
   ·rw[List.mem_singleton]at h;exact .inr (.inl h)
   ·cases h
 ·unfold redL at h;obtain⟨k,hk,rfl⟩:=List.mem_map.1 h;exact .inr (.inr ⟨k,List.mem_range.1 (List.mem_filter.1 hk).1,rfl⟩)
theorem zHz{G}{q}(D:Done G q){i}(hi:i<q.1.length)(t):fstA G q i t=(0,0)\/(∃n:Nat,n<q.1.length/\fstA G q i t=(1,(n:Int)))\/fstA G q i t=(3,0)\/∃k:Nat,k<G.rules.length/\fstA G q i t=(2,(k:Int)):=by
 unfold fstA;rcases h:actL G q i t with _|⟨x,l⟩
 ·exact .inl rfl
 ·exact .inr (zR8 D hi (by rw[h];exact List.mem_cons_self ..))
end Ac
namespace Ac
open Go.RowKit Go.Maps
open Gr (Gram)
open Au
open Go.Proofs.YtegeamggbglneaaGreatDoor.Sep
theorem zJU{G}{q}{i t}:rowV G q i (t*2)=.int .i64 (fstA G q i t).1/\rowV G q i (t*2+1)=.int .i64 (fstA G q i t).2:=by
 unfold rowV;rw[if_pos (by omega),if_neg (by omega),show t*2 / 2=t by omega,show(t*2+1) / 2=t by omega];exact⟨rfl,rfl⟩
