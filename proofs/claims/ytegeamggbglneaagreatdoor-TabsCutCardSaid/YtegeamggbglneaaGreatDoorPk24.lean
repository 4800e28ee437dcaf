/- Proof. -/
import Derived.Test.YtegeamggbglneaaGreatDoorRows
import Derived.WalkKit
import Derived.ProofKit
import Derived.Below
import Derived.Deep.Light
import Derived.Outline
import Derived.Test.YtegeamggbglneaaGreatDoorPk02
set_option maxHeartbeats 2000000
set_option maxRecDepth 100000
set_option linter.unusedVariables false
namespace Go.Proofs.YtegeamggbglneaaGreatDoor
namespace Ch
open Go.RowKit
theorem jP{x r}(h:x=r):Ending.returned (.int .i64 r)=.returned (.int .i64 x):=by rw[h]
theorem aU{x r}(h:x=r):Ending.returned (.bool r)=.returned (.bool x):=by rw[h]
theorem UY(x:Int)(w:World)(h0:0<=x)(h1:x<=255):
  Calls Tryz.prog 208 #[.int .u8 x] w fun e w'=>e=.returned (.int .i64 (cls x))/\w=w':=by
 go_enter Tryz.func208,Tryz.ntmps208;go_wp2
 all_goals
  go_ret;refine⟨jP ?_,rfl⟩;go_light;simp only[beq_iff_eq,beq_eq_false_iff_ne,ne_eq]at*;unfold cls
  repeat' split
  all_goals omega
theorem Ur(k)(w):
  Calls Tryz.prog 207 #[.int .i64 k] w fun e w'=>e=.returned (.bool (kj k))/\w=w':=by
 go_enter Tryz.func207,Tryz.ntmps207;go_wp2
 all_goals
  go_ret;exact⟨aU (by simp_all [kj]),rfl⟩
theorem Tp(r)(w)(h0:0<=r)(h1:r<=2147483647):
  Calls Tryz.prog 228 #[.int .i32 r] w fun e w'=>e=.returned (.int .i64 (jB r))/\w=w':=by
 by_cases h:127<r
 ·go_enter Tryz.func228,Tryz.ntmps228;go_wp2;go_ret;exact⟨jP (by unfold jB;rw[if_pos h]),rfl⟩
 ·go_enter Tryz.func228,Tryz.ntmps228;go_wp2_with (go_at_call 208;refine(UY _ _ ?_ ?_).mono ?_;exact h0;omega;rintro e w' ⟨rfl,rfl⟩);go_ret;exact⟨jP (by unfold jB;rw[if_neg (by omega)]),rfl⟩
end Ch
namespace Ch
open Go.RowKit
theorem Us(w w')(s)(pos)(h:w'=w.iter s pos):Below w.heap.size w w':=by
 subst h;exact(Below.refl _ _).alloc (Nat.le_refl _) _
def VQ(b:Bool)(w:World)(e:Ending)(w':World):Prop:=e=.returned (.bool b)/\Below w.heap.size w w'
theorem UJ(s:ByteArray)(w:World):
  Calls Tryz.prog 206 #[.string s,.func (.func 207) #[] #[]] w (VQ (nO kj s.data.toList) w):=by
 go_enter Tryz.func206,Tryz.ntmps206;go_wp2;go_loopw [] (fun w'=>∃(pos:Nat),w'=w.iter s pos/\bz kj s.data.toList pos) (fun w'=>s.size-w'.iterPos w.heap.size)
 case atStart=>exact⟨0,rfl,zPO _ _⟩
 case round=>
  obtain⟨pos,rfl,hu⟩:=hrel;have HU:Hid (bz kj s.data.toList pos):=hu;clear hu
  by_cases hp:pos<s.size
  ·have hnx:∀ty,(Instr.next (.pointer (some ⟨w.heap.size,0,none⟩)) true ty).run Tryz.prog (w.iter s pos)= _:=fun ty=>run_next_any w s pos ty hp
   have hle:((Utf8.decode s pos).1:Int)<=2147483647:=by have:=decode_le s pos;omega
   have hge:(0:Int)<=((Utf8.decode s pos).1:Int):=by omega
   by_cases hq:kj (jB ((Utf8.decode s pos).1:Int))=true
   ·go_wp2_with (first|(go_at_call 228;refine(Tp _ _ ?_ ?_).mono ?_;exact hge;exact hle;rintro e w' ⟨rfl,rfl⟩)|(go_at_call 207;refine(Ur _ _).mono ?_;rintro e w' ⟨rfl,rfl⟩));have hwd:=Tu s pos hp;go_roundw
    case rel=>exact⟨pos+(Utf8.decode s pos).2,rfl,zLT kj s pos hp HU.out hq⟩
    case measure=>
     simp;omega
   ·have hq':kj (jB ((Utf8.decode s pos).1:Int))=false:=by simpa using hq
    clear hq;go_wp2_with (first|(go_at_call 228;refine(Tp _ _ ?_ ?_).mono ?_;exact hge;exact hle;rintro e w' ⟨rfl,rfl⟩)|(go_at_call 207;refine(Ur _ _).mono ?_;rintro e w' ⟨rfl,rfl⟩));go_ret;exact⟨aU (zLS kj s pos hp hq'),Us _ _ _ _ rfl⟩
  ·have hnx:∀ty,(Instr.next (.pointer (some ⟨w.heap.size,0,none⟩)) true ty).run Tryz.prog (w.iter s pos)= _:=fun ty=>run_next_end w s pos ty hp
   have Rn:nO kj s.data.toList= !s.toList.isEmpty:=by rw[ByteArray.toList_eq];exact zM5 kj s pos hp HU.out
   have HE:Hid (nO kj s.data.toList= !s.toList.isEmpty):=Rn;clear HU Rn;go_wp2;go_ret;exact⟨aU HE.out,Us _ _ _ _ rfl⟩
theorem zM6(p)(s:ByteArray)(h:nO p s.data.toList=true):0<s.size:=by
 rcases s with⟨⟨l⟩⟩
 cases l with
 |nil=>simp[nO]at h
 |cons b r=>simp[ByteArray.size]
theorem zNM(s:ByteArray)(h):∃b r,s.data.toList=b::r/\s[0]=b:=by
 rcases s with⟨⟨l⟩⟩
 cases l with
 |nil=>simp[ByteArray.size]at h
 |cons b r=>exact⟨b,r,rfl,rfl⟩
theorem zLn(s:ByteArray)(h:nO kj s.data.toList=false):nt s.data.toList=false:=by rw[Uj,h,Bool.false_and]
theorem zN5(s:ByteArray)(h:nO kj s.data.toList=true)(hp):nt s.data.toList=(cls ((s[0]'hp).toNat:Int)==4):=by
 obtain⟨b,r,he,hb⟩:=zNM s hp;rw[Uj,h,Bool.true_and,hb,he]
 rfl
theorem zSx(b:UInt8):((b.toNat:Int))<=255:=by have:=b.toNat_lt;omega
theorem zPG(s:ByteArray)(k):(s.extract 0 k).data.toList=s.data.toList.take k:=by
 simp[ByteArray.data_extract]
theorem Nu(s)(w):
  Calls Tryz.prog 173 #[.string s] w (VQ (nt s.data.toList) w):=by
 by_cases h:nO kj s.data.toList=true
 ·have hp:=zM6 _ s h;have hb:=zSx (s[0]'hp);go_enter Tryz.func173,Tryz.ntmps173;go_wp2_with (first|(go_at_call 206;refine(UJ _ _).mono ?_;rintro e w1 ⟨rfl,xA⟩)|(go_at_call 208;refine(UY _ _ ?_ ?_).mono ?_;omega;exact hb;rintro e w2 ⟨rfl,rfl⟩));go_ret;exact⟨aU (zN5 s h hp),xA⟩
 ·have h':nO kj s.data.toList=false:=by simpa using h
  clear h;go_enter Tryz.func173,Tryz.ntmps173;go_wp2_with (go_at_call 206;refine(UJ _ _).mono ?_;rintro e w1 ⟨rfl,xA⟩);go_ret;exact⟨aU (zLn s h'),xA⟩
