/- Proof. -/
import Derived.Test.YtegeamggbglneaaGreatDoorPk48
set_option linter.unusedVariables false
namespace Go.Proofs.YtegeamggbglneaaGreatDoor
namespace Ac
open Im
open Au
theorem zSj{G}{q}(D:Done G q){i}(hi:i<q.1.length){t}{x}(hx:x∈bh G q i t):(∃n:Nat,n<q.1.length/\x=(1,(n:Int)))\/x=(3,0)\/∃k:Nat,k<G.rules.length/\x=(2,(k:Int)):=by
 unfold bh at hx;rcases List.mem_append.1 hx with h|h
 ·rcases List.mem_append.1 h with h|h
  ·rcases Uc D hi t with⟨_,e⟩|⟨n,_,hn,e⟩
   ·rw[e]at h;cases h
   ·rw[e,List.mem_singleton]at h;exact .inl ⟨n,hn,h⟩
  ·unfold iu at h;split at h
   ·rw[List.mem_singleton]at h;exact .inr (.inl h)
   ·cases h
 ·unfold iB at h;obtain⟨k,hk,rfl⟩:=List.mem_map.1 h;exact .inr (.inr ⟨k,List.mem_range.1 (List.mem_filter.1 hk).1,rfl⟩)
theorem U4{G}{q}(D:Done G q){i}(hi:i<q.1.length)(t):cm G q i t=(0,0)\/(∃n:Nat,n<q.1.length/\cm G q i t=(1,(n:Int)))\/cm G q i t=(3,0)\/∃k:Nat,k<G.rules.length/\cm G q i t=(2,(k:Int)):=by
 unfold cm;rcases h:bh G q i t with _|⟨x,l⟩
 ·exact .inl rfl
 ·exact .inr (zSj D hi (by rw[h];exact List.mem_cons_self ..))
end Ac
namespace Ac
open Go.RowKit Go.Maps
open Gr (ai)
open Au
open Go.Proofs.YtegeamggbglneaaGreatDoor.Sep
theorem Oj{G}{q}{i t}:jJ G q i (t*2)=.int .i64 (cm G q i t).1/\jJ G q i (t*2+1)=.int .i64 (cm G q i t).2:=by
 unfold jJ;rw[if_pos (by omega),if_neg (by omega),show t*2 / 2=t by omega,show(t*2+1) / 2=t by omega];exact⟨rfl,rfl⟩
