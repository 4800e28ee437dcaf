/- A part of the proof. -/
import Derived.Test.YtegeamggbglneaaGreatDoorRows
import Derived.WalkKit
import Derived.ProofKit
import Derived.Below
import Derived.Deep.Light
import Derived.Outline
import Derived.Test.YtegeamggbglneaaGreatDoorPk01
set_option maxHeartbeats 2000000
set_option maxRecDepth 100000
set_option linter.unusedVariables false
namespace Go.Proofs.YtegeamggbglneaaGreatDoor
namespace Ch
open Go.RowKit
theorem zAx{x r}(h:x=r):Ending.returned (.int .i64 r)=.returned (.int .i64 x):=by rw[h]
theorem zAD{x r}(h:x=r):Ending.returned (.bool r)=.returned (.bool x):=by rw[h]
theorem zHn(x:Int)(w:World)(h0:0<=x)(h1:x<=255):
  Calls Tryz.prog 208 #[.int .u8 x] w fun e w'=>e=.returned (.int .i64 (cls x))/\w=w':=by
 go_enter Tryz.func208,Tryz.ntmps208;go_wp2
 all_goals
  go_ret;refine⟨zAx ?_,rfl⟩;go_light;simp only[beq_iff_eq,beq_eq_false_iff_ne,ne_eq]at*;unfold cls
  repeat' split
  all_goals omega
theorem zGP(k)(w):
  Calls Tryz.prog 207 #[.int .i64 k] w fun e w'=>e=.returned (.bool (inN k))/\w=w':=by
 go_enter Tryz.func207,Tryz.ntmps207;go_wp2
 all_goals
  go_ret;exact⟨zAD (by simp_all [inN]),rfl⟩
theorem zE7(r)(w)(h0:0<=r)(h1:r<=2147483647):
  Calls Tryz.prog 228 #[.int .i32 r] w fun e w'=>e=.returned (.int .i64 (clsR r))/\w=w':=by
 by_cases h:127<r
 ·go_enter Tryz.func228,Tryz.ntmps228;go_wp2;go_ret;exact⟨zAx (by unfold clsR;rw[if_pos h]),rfl⟩
 ·go_enter Tryz.func228,Tryz.ntmps228;go_wp2_with (go_at_call 208;refine(zHn _ _ ?_ ?_).mono ?_;exact h0;omega;rintro e w' ⟨rfl,rfl⟩);go_ret;exact⟨zAx (by unfold clsR;rw[if_neg (by omega)]),rfl⟩
end Ch
namespace Ch
open Go.RowKit
theorem zGQ(w w')(s)(pos)(h:w'=w.iter s pos):Below w.heap.size w w':=by
 subst h;exact(Below.refl _ _).alloc (Nat.le_refl _) _
def zJk(b:Bool)(w:World)(e:Ending)(w':World):Prop:=e=.returned (.bool b)/\Below w.heap.size w w'
theorem zHx(s:ByteArray)(w:World):
  Calls Tryz.prog 206 #[.string s,.func (.func 207) #[] #[]] w (zJk (zBt inN s.data.toList) w):=by
 go_enter Tryz.func206,Tryz.ntmps206;go_wp2;go_loopw [] (fun w'=>∃(pos:Nat),w'=w.iter s pos/\Upto inN s.data.toList pos) (fun w'=>s.size-w'.iterPos w.heap.size)
 case atStart=>exact⟨0,rfl,zOx _ _⟩
 case round=>
  obtain⟨pos,rfl,hu⟩:=hrel;have HU:Hid (Upto inN s.data.toList pos):=hu;clear hu
  by_cases hp:pos<s.size
  ·have hnx:∀ty,(Instr.next (.pointer (some ⟨w.heap.size,0,none⟩)) true ty).run Tryz.prog (w.iter s pos)= _:=fun ty=>run_next_any w s pos ty hp
   have hle:((Utf8.decode s pos).1:Int)<=2147483647:=by have:=decode_le s pos;omega
   have hge:(0:Int)<=((Utf8.decode s pos).1:Int):=by omega
   by_cases hq:inN (clsR ((Utf8.decode s pos).1:Int))=true
   ·go_wp2_with (first|(go_at_call 228;refine(zE7 _ _ ?_ ?_).mono ?_;exact hge;exact hle;rintro e w' ⟨rfl,rfl⟩)|(go_at_call 207;refine(zGP _ _).mono ?_;rintro e w' ⟨rfl,rfl⟩));have hwd:=zEV s pos hp;go_roundw
    case rel=>exact⟨pos+(Utf8.decode s pos).2,rfl,zLG inN s pos hp HU.out hq⟩
    case measure=>
     simp;omega
   ·have hq':inN (clsR ((Utf8.decode s pos).1:Int))=false:=by simpa using hq
    clear hq;go_wp2_with (first|(go_at_call 228;refine(zE7 _ _ ?_ ?_).mono ?_;exact hge;exact hle;rintro e w' ⟨rfl,rfl⟩)|(go_at_call 207;refine(zGP _ _).mono ?_;rintro e w' ⟨rfl,rfl⟩));go_ret;exact⟨zAD (zLF inN s pos hp hq'),zGQ _ _ _ _ rfl⟩
  ·have hnx:∀ty,(Instr.next (.pointer (some ⟨w.heap.size,0,none⟩)) true ty).run Tryz.prog (w.iter s pos)= _:=fun ty=>run_next_end w s pos ty hp
   have hee:zBt inN s.data.toList= !s.toList.isEmpty:=by rw[ByteArray.toList_eq];exact zMo inN s pos hp HU.out
   have HE:Hid (zBt inN s.data.toList= !s.toList.isEmpty):=hee;clear HU hee;go_wp2;go_ret;exact⟨zAD HE.out,zGQ _ _ _ _ rfl⟩
theorem zMp(p)(s:ByteArray)(h:zBt p s.data.toList=true):0<s.size:=by
 rcases s with⟨⟨l⟩⟩
 cases l with
 |nil=>simp[zBt]at h
 |cons b r=>simp[ByteArray.size]
theorem zM4(s:ByteArray)(h):∃b r,s.data.toList=b::r/\s[0]=b:=by
 rcases s with⟨⟨l⟩⟩
 cases l with
 |nil=>simp[ByteArray.size]at h
 |cons b r=>exact⟨b,r,rfl,rfl⟩
theorem zLa(s:ByteArray)(h:zBt inN s.data.toList=false):namB s.data.toList=false:=by rw[zGI,h,Bool.false_and]
theorem zNl(s:ByteArray)(h:zBt inN s.data.toList=true)(hp):namB s.data.toList=(cls ((s[0]'hp).toNat:Int)==4):=by
 obtain⟨b,r,he,hb⟩:=zM4 s hp;rw[zGI,h,Bool.true_and,hb,he]
 rfl
theorem zSM(b:UInt8):((b.toNat:Int))<=255:=by have:=b.toNat_lt;omega
theorem zOo(s:ByteArray)(k):(s.extract 0 k).data.toList=s.data.toList.take k:=by
 simp[ByteArray.data_extract]
theorem zHB(s)(w):
  Calls Tryz.prog 173 #[.string s] w (zJk (namB s.data.toList) w):=by
 by_cases h:zBt inN s.data.toList=true
 ·have hp:=zMp _ s h;have hb:=zSM (s[0]'hp);go_enter Tryz.func173,Tryz.ntmps173;go_wp2_with (first|(go_at_call 206;refine(zHx _ _).mono ?_;rintro e w1 ⟨rfl,hbel⟩)|(go_at_call 208;refine(zHn _ _ ?_ ?_).mono ?_;omega;exact hb;rintro e w2 ⟨rfl,rfl⟩));go_ret;exact⟨zAD (zNl s h hp),hbel⟩
 ·have h':zBt inN s.data.toList=false:=by simpa using h
  clear h;go_enter Tryz.func173,Tryz.ntmps173;go_wp2_with (go_at_call 206;refine(zHx _ _).mono ?_;rintro e w1 ⟨rfl,hbel⟩);go_ret;exact⟨zAD (zLa s h'),hbel⟩
